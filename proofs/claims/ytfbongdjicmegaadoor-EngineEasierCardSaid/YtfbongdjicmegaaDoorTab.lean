/- THE TABLES OF THE PROGRAM: its types,and its functions as the evaluator runs them. -/
import Derived.Test.YtfbongdjicmegaaDoorSxOps5
import Derived.KernelRfl
/-! THE TABLES OF THE PROGRAM: its types,and its functions as the evaluator runs them. -/
namespace Go.Sx
set_option maxRecDepth 100000
noncomputable def Tryd.ti3:TI:=⟨.int .i64,1,8,(some (.int .i64 (.lit 0))),false⟩
noncomputable def Tryd.ti4:TI:=⟨.bool,1,1,(some (.bool (.lit false))),false⟩
noncomputable def Tryd.ti23:TI:=⟨.struct #[⟨ "Low",3,0,false,"","",0⟩,⟨ "High",3,1,false,"","",8⟩],2,16,(some (.agg [(.int .i64 (.lit 0)),(.int .i64 (.lit 0))])),true⟩
noncomputable def Tryd.ti24:TI:=⟨.array 2 23,4,32,(some (.agg [(.int .i64 (.lit 0)),(.int .i64 (.lit 0)),(.int .i64 (.lit 0)),(.int .i64 (.lit 0))])),true⟩
noncomputable def Tryd.ti25:TI:=⟨.slice 33,1,24,(some .nilslice),false⟩
noncomputable def Tryd.ti27:TI:=⟨.struct #[⟨ "Coal",23,0,false,"","",0⟩,⟨ "Water",23,2,false,"","",16⟩,⟨ "Bunker",3,4,false,"","",32⟩,⟨ "Tank",3,5,false,"","",40⟩,⟨ "Scoop",3,6,false,"","",48⟩,⟨ "Pail",3,7,false,"","",56⟩,⟨ "Burn",24,8,false,"","",64⟩,⟨ "Drink",24,12,false,"","",96⟩,⟨ "Full",23,16,false,"","",128⟩,⟨ "Weak",23,18,false,"","",144⟩,⟨ "Mark",3,20,false,"","",160⟩,⟨ "Lamp",3,21,false,"","",168⟩,⟨ "Parts",25,22,false,"","",176⟩],23,200,(some (.agg [(.int .i64 (.lit 0)),(.int .i64 (.lit 0)),(.int .i64 (.lit 0)),(.int .i64 (.lit 0)),(.int .i64 (.lit 0)),(.int .i64 (.lit 0)),(.int .i64 (.lit 0)),(.int .i64 (.lit 0)),(.int .i64 (.lit 0)),(.int .i64 (.lit 0)),(.int .i64 (.lit 0)),(.int .i64 (.lit 0)),(.int .i64 (.lit 0)),(.int .i64 (.lit 0)),(.int .i64 (.lit 0)),(.int .i64 (.lit 0)),(.int .i64 (.lit 0)),(.int .i64 (.lit 0)),(.int .i64 (.lit 0)),(.int .i64 (.lit 0)),(.int .i64 (.lit 0)),(.int .i64 (.lit 0)),.nilslice])),true⟩
noncomputable def Tryd.ti28:TI:=⟨.array 2 3,2,16,(some (.agg [(.int .i64 (.lit 0)),(.int .i64 (.lit 0))])),true⟩
noncomputable def Tryd.ti33:TI:=⟨.struct #[⟨ "Minutes",23,0,false,"","",0⟩,⟨ "Light",4,2,false,"","",16⟩,⟨ "Walks",3,3,false,"","",24⟩],4,32,(some (.agg [(.int .i64 (.lit 0)),(.int .i64 (.lit 0)),(.bool (.lit false)),(.int .i64 (.lit 0))])),true⟩
noncomputable def Tryd.ti34:TI:=⟨.slice 76,1,24,(some .nilslice),false⟩
noncomputable def Tryd.ti35:TI:=⟨.int .i64,1,8,(some (.int .i64 (.lit 0))),false⟩
noncomputable def Tryd.ti43:TI:=⟨.slice 3,1,24,(some .nilslice),false⟩
noncomputable def Tryd.ti66:TI:=⟨.struct #[⟨ "first",23,0,false,"","bioscope/engine",0⟩,⟨ "room",3,2,false,"","bioscope/engine",16⟩,⟨ "load",3,3,false,"","bioscope/engine",24⟩,⟨ "takes",24,4,false,"","bioscope/engine",32⟩],8,64,(some (.agg [(.int .i64 (.lit 0)),(.int .i64 (.lit 0)),(.int .i64 (.lit 0)),(.int .i64 (.lit 0)),(.int .i64 (.lit 0)),(.int .i64 (.lit 0)),(.int .i64 (.lit 0)),(.int .i64 (.lit 0))])),true⟩
noncomputable def Tryd.ti67:TI:=⟨.array 2 66,16,128,(some (.agg [(.int .i64 (.lit 0)),(.int .i64 (.lit 0)),(.int .i64 (.lit 0)),(.int .i64 (.lit 0)),(.int .i64 (.lit 0)),(.int .i64 (.lit 0)),(.int .i64 (.lit 0)),(.int .i64 (.lit 0)),(.int .i64 (.lit 0)),(.int .i64 (.lit 0)),(.int .i64 (.lit 0)),(.int .i64 (.lit 0)),(.int .i64 (.lit 0)),(.int .i64 (.lit 0)),(.int .i64 (.lit 0)),(.int .i64 (.lit 0))])),true⟩
noncomputable def Tryd.ti69:TI:=⟨.struct #[⟨ "EngineBook",27,0,true,"","",0⟩,⟨ "stores",67,23,false,"","bioscope/engine",200⟩],39,328,(some (.agg [(.int .i64 (.lit 0)),(.int .i64 (.lit 0)),(.int .i64 (.lit 0)),(.int .i64 (.lit 0)),(.int .i64 (.lit 0)),(.int .i64 (.lit 0)),(.int .i64 (.lit 0)),(.int .i64 (.lit 0)),(.int .i64 (.lit 0)),(.int .i64 (.lit 0)),(.int .i64 (.lit 0)),(.int .i64 (.lit 0)),(.int .i64 (.lit 0)),(.int .i64 (.lit 0)),(.int .i64 (.lit 0)),(.int .i64 (.lit 0)),(.int .i64 (.lit 0)),(.int .i64 (.lit 0)),(.int .i64 (.lit 0)),(.int .i64 (.lit 0)),(.int .i64 (.lit 0)),(.int .i64 (.lit 0)),.nilslice,(.int .i64 (.lit 0)),(.int .i64 (.lit 0)),(.int .i64 (.lit 0)),(.int .i64 (.lit 0)),(.int .i64 (.lit 0)),(.int .i64 (.lit 0)),(.int .i64 (.lit 0)),(.int .i64 (.lit 0)),(.int .i64 (.lit 0)),(.int .i64 (.lit 0)),(.int .i64 (.lit 0)),(.int .i64 (.lit 0)),(.int .i64 (.lit 0)),(.int .i64 (.lit 0)),(.int .i64 (.lit 0)),(.int .i64 (.lit 0))])),true⟩
noncomputable def Tryd.ti74:TI:=⟨.func #[3] #[4] false,1,8,(some .nilFunc),false⟩
noncomputable def Tryd.ti76:TI:=⟨.struct #[⟨ "Coal",3,0,false,"","",0⟩,⟨ "Water",3,1,false,"","",8⟩],2,16,(some (.agg [(.int .i64 (.lit 0)),(.int .i64 (.lit 0))])),true⟩
noncomputable def Tryd.ti91:TI:=⟨.struct #[⟨ "evening",69,0,true,"","bioscope/engine",0⟩,⟨ "part",3,39,false,"","bioscope/engine",328⟩],40,336,(some (.agg [(.int .i64 (.lit 0)),(.int .i64 (.lit 0)),(.int .i64 (.lit 0)),(.int .i64 (.lit 0)),(.int .i64 (.lit 0)),(.int .i64 (.lit 0)),(.int .i64 (.lit 0)),(.int .i64 (.lit 0)),(.int .i64 (.lit 0)),(.int .i64 (.lit 0)),(.int .i64 (.lit 0)),(.int .i64 (.lit 0)),(.int .i64 (.lit 0)),(.int .i64 (.lit 0)),(.int .i64 (.lit 0)),(.int .i64 (.lit 0)),(.int .i64 (.lit 0)),(.int .i64 (.lit 0)),(.int .i64 (.lit 0)),(.int .i64 (.lit 0)),(.int .i64 (.lit 0)),(.int .i64 (.lit 0)),.nilslice,(.int .i64 (.lit 0)),(.int .i64 (.lit 0)),(.int .i64 (.lit 0)),(.int .i64 (.lit 0)),(.int .i64 (.lit 0)),(.int .i64 (.lit 0)),(.int .i64 (.lit 0)),(.int .i64 (.lit 0)),(.int .i64 (.lit 0)),(.int .i64 (.lit 0)),(.int .i64 (.lit 0)),(.int .i64 (.lit 0)),(.int .i64 (.lit 0)),(.int .i64 (.lit 0)),(.int .i64 (.lit 0)),(.int .i64 (.lit 0)),(.int .i64 (.lit 0))])),true⟩
noncomputable def Tryd.ti93:TI:=⟨.func #[124] #[3] false,1,8,(some .nilFunc),false⟩
noncomputable def Tryd.ti95:TI:=⟨.struct #[⟨ "has",93,0,false,"","bioscope/engine",0⟩,⟨ "takes",93,1,false,"","bioscope/engine",8⟩],2,16,(some (.agg [.nilFunc,.nilFunc])),true⟩
noncomputable def Tryd.ti98:TI:=⟨.map 102 107,1,8,(some .nilmap),false⟩
noncomputable def Tryd.ti100:TI:=⟨.array 2 3,2,16,(some (.agg [(.int .i64 (.lit 0)),(.int .i64 (.lit 0))])),true⟩
noncomputable def Tryd.ti102:TI:=⟨.struct #[⟨ "part",3,0,false,"","bioscope/engine",0⟩,⟨ "left",100,1,false,"","bioscope/engine",8⟩],3,24,(some (.agg [(.int .i64 (.lit 0)),(.int .i64 (.lit 0)),(.int .i64 (.lit 0))])),true⟩
noncomputable def Tryd.ti105:TI:=⟨.struct #[⟨ "walks",76,0,false,"","bioscope/engine",0⟩,⟨ "behind",102,2,false,"","bioscope/engine",16⟩,⟨ "lacks",100,5,false,"","bioscope/engine",40⟩],7,56,(some (.agg [(.int .i64 (.lit 0)),(.int .i64 (.lit 0)),(.int .i64 (.lit 0)),(.int .i64 (.lit 0)),(.int .i64 (.lit 0)),(.int .i64 (.lit 0)),(.int .i64 (.lit 0))])),true⟩
noncomputable def Tryd.ti107:TI:=⟨.struct #[⟨ "enough",4,0,false,"","bioscope/engine",0⟩,⟨ "many",3,1,false,"","bioscope/engine",8⟩,⟨ "first",105,2,false,"","bioscope/engine",16⟩],9,72,(some (.agg [(.bool (.lit false)),(.int .i64 (.lit 0)),(.int .i64 (.lit 0)),(.int .i64 (.lit 0)),(.int .i64 (.lit 0)),(.int .i64 (.lit 0)),(.int .i64 (.lit 0)),(.int .i64 (.lit 0)),(.int .i64 (.lit 0))])),true⟩
noncomputable def Tryd.ti113:TI:=⟨.array 6 3,6,48,(some (.agg [(.int .i64 (.lit 0)),(.int .i64 (.lit 0)),(.int .i64 (.lit 0)),(.int .i64 (.lit 0)),(.int .i64 (.lit 0)),(.int .i64 (.lit 0))])),true⟩
noncomputable def Tryd.ti114:TI:=⟨.array 6 23,12,96,(some (.agg [(.int .i64 (.lit 0)),(.int .i64 (.lit 0)),(.int .i64 (.lit 0)),(.int .i64 (.lit 0)),(.int .i64 (.lit 0)),(.int .i64 (.lit 0)),(.int .i64 (.lit 0)),(.int .i64 (.lit 0)),(.int .i64 (.lit 0)),(.int .i64 (.lit 0)),(.int .i64 (.lit 0)),(.int .i64 (.lit 0))])),true⟩
noncomputable def Tryd.ti116:TI:=⟨.slice 23,1,24,(some .nilslice),false⟩
noncomputable def Tryd.ti119:TI:=⟨.int .u64,1,8,(some (.int .u64 (.lit 0))),false⟩
noncomputable def Tryd.ti120:TI:=⟨.func #[69] #[66] false,1,8,(some .nilFunc),false⟩
noncomputable def Tryd.ti122:TI:=⟨.array 2 120,2,16,(some (.agg [.nilFunc,.nilFunc])),true⟩
noncomputable def Tryd.ti124:TI:=⟨.struct #[⟨ "Low",3,0,false,"","",0⟩,⟨ "High",3,1,false,"","",8⟩],2,16,(some (.agg [(.int .i64 (.lit 0)),(.int .i64 (.lit 0))])),true⟩
noncomputable def Tryd.ti125:TI:=⟨.func #[102] #[107] false,1,8,(some .nilFunc),false⟩
noncomputable def Tryd.tt:PT TI:=(.node none (.node none (.node (some Tryd.ti3) (.node none (.node none (.node none .nil (.node (some Tryd.ti95) .nil .nil)) .nil) (.node (some Tryd.ti23) .nil (.node none .nil (.node (some Tryd.ti119) .nil .nil)))) (.node none (.node none (.node (some Tryd.ti35) (.node (some Tryd.ti67) .nil .nil) .nil) .nil) (.node (some Tryd.ti27) (.node (some Tryd.ti43) .nil (.node (some Tryd.ti107) .nil .nil)) (.node none (.node (some Tryd.ti91) .nil .nil) .nil)))) (.node none (.node none (.node none (.node (some Tryd.ti33) .nil .nil) (.node none .nil (.node (some Tryd.ti113) .nil .nil))) (.node (some Tryd.ti25) (.node none .nil (.node (some Tryd.ti105) .nil .nil)) .nil)) (.node none (.node none (.node none (.node (some Tryd.ti69) .nil .nil) .nil) .nil) (.node none .nil (.node none (.node (some Tryd.ti93) .nil .nil) (.node (some Tryd.ti125) .nil .nil)))))) (.node none (.node (some Tryd.ti4) (.node none .nil (.node (some Tryd.ti24) .nil (.node none .nil (.node (some Tryd.ti120) .nil .nil)))) (.node none (.node none (.node none .nil (.node (some Tryd.ti100) .nil .nil)) (.node none .nil (.node (some Tryd.ti116) .nil .nil))) (.node (some Tryd.ti28) (.node none (.node (some Tryd.ti76) .nil .nil) .nil) (.node none .nil (.node (some Tryd.ti124) .nil .nil))))) (.node none (.node none (.node none (.node (some Tryd.ti34) (.node (some Tryd.ti66) .nil .nil) (.node (some Tryd.ti98) .nil .nil)) (.node none .nil (.node (some Tryd.ti114) .nil .nil))) (.node none (.node none (.node (some Tryd.ti74) .nil .nil) .nil) (.node none .nil (.node (some Tryd.ti122) .nil .nil)))) (.node none (.node none (.node none .nil (.node (some Tryd.ti102) .nil .nil)) .nil) .nil))))
noncomputable def Tryd.kp3:List Nat:=[0,1,2,3,4,5,6,7,8,9,10,11,12,13,14,15,16,19,38,59,72,85,99,107,115,131,156,164,202,204]
noncomputable def Tryd.cf3:CF:=⟨2,(cSeq (cOps [⟨some 2,true,none,iBox 27 (.t 0)⟩,
 ⟨some 3,true,none,iBox 28 (.t 1)⟩,
 ⟨some 4,true,none,iMov (.c (.bool (.lit false)))⟩])
 (cSeq (cSeq (cOps [⟨some 17,false,none,iLoadN 23 (.t 2)⟩,
 ⟨some 18,false,none,iCall (.c (.func (.func 6) [] [])) [(.t 17)]⟩,
 ⟨some 19,true,none,iNot (.t 18)⟩])
 (cCond (.t 19) (cSeq (cOps [⟨some 20,false,none,iCall (.c (.func (.func 7) [] [])) []⟩,
 ⟨some 4,true,none,iMov (.t 20)⟩])
 cRet) cSkip))
 (cSeq (dOps 1 [⟨⟨some 21,false,none,iLoadN 23 (.t 2)⟩,[2],false,0,1,none,[]⟩,
 ⟨⟨some 22,false,none,iIaddrA 1 2 (.t 3) (.c (.int .i64 (.lit 1)))⟩,[3],false,0,0,none,[]⟩,
 ⟨⟨some 23,false,none,iLoad (.t 22)⟩,[22],false,0,0,none,[]⟩,
 ⟨⟨some 24,false,none,iCall (.c (.func (.func 8) [] [])) [(.t 23),(.c (.int .i64 (.lit 12)))]⟩,[23],true,0,0,none,[]⟩,
 ⟨⟨some 5,true,none,iAlloc 27 [(.int .i64 (.lit 0)),(.int .i64 (.lit 0)),(.int .i64 (.lit 0)),(.int .i64 (.lit 0)),(.int .i64 (.lit 0)),(.int .i64 (.lit 0)),(.int .i64 (.lit 0)),(.int .i64 (.lit 0)),(.int .i64 (.lit 0)),(.int .i64 (.lit 0)),(.int .i64 (.lit 0)),(.int .i64 (.lit 0)),(.int .i64 (.lit 0)),(.int .i64 (.lit 0)),(.int .i64 (.lit 0)),(.int .i64 (.lit 0)),(.int .i64 (.lit 0)),(.int .i64 (.lit 0)),(.int .i64 (.lit 0)),(.int .i64 (.lit 0)),(.int .i64 (.lit 0)),(.int .i64 (.lit 0)),.nilslice]⟩,[],false,0,2,(some (flAlloc [(.int .i64 (.lit 0)),(.int .i64 (.lit 0)),(.int .i64 (.lit 0)),(.int .i64 (.lit 0)),(.int .i64 (.lit 0)),(.int .i64 (.lit 0)),(.int .i64 (.lit 0)),(.int .i64 (.lit 0)),(.int .i64 (.lit 0)),(.int .i64 (.lit 0)),(.int .i64 (.lit 0)),(.int .i64 (.lit 0)),(.int .i64 (.lit 0)),(.int .i64 (.lit 0)),(.int .i64 (.lit 0)),(.int .i64 (.lit 0)),(.int .i64 (.lit 0)),(.int .i64 (.lit 0)),(.int .i64 (.lit 0)),(.int .i64 (.lit 0)),(.int .i64 (.lit 0)),(.int .i64 (.lit 0)),.nilslice],.ptr,0)),[]⟩,
 ⟨⟨none,false,none,iStore 23 (.t 5) (.t 21)⟩,[5,21],true,1,0,none,[0]⟩,
 ⟨⟨some 6,true,none,iMov (.t 24)⟩,[24],false,2,2,none,[]⟩])
 (cSeq (cOps [⟨some 25,false,none,iIaddrA 1 2 (.t 3) (.c (.int .i64 (.lit 1)))⟩,
 ⟨some 26,false,none,iLoad (.t 25)⟩,
 ⟨some 27,false,none,iFaddr 22 (.t 2)⟩,
 ⟨some 28,false,none,iLoad (.t 27)⟩,
 ⟨some 29,false,none,iLenS (.t 28)⟩,
 ⟨some 30,false,none,iCall (.c (.func (.func 8) [] [])) [(.t 26),(.t 29)]⟩,
 ⟨some 7,true,none,iMov (.t 30)⟩])
 (cSeq (cOps [⟨some 31,false,none,iBslice 33 [(.int .i64 (.lit 0)),(.int .i64 (.lit 0)),(.bool (.lit false)),(.int .i64 (.lit 0))] 0 []⟩,
 ⟨some 32,false,none,iFaddr 22 (.t 2)⟩,
 ⟨some 33,false,none,iLoad (.t 32)⟩,
 ⟨some 34,false,none,iAppend 33 4 32 (.t 31) (.t 33)⟩,
 ⟨some 35,false,none,iFaddr 22 (.t 5)⟩,
 ⟨none,false,none,iStore 1 (.t 35) (.t 34)⟩])
 (cSeq (cSeq (cOps [⟨some 36,false,none,iIaddrA 1 2 (.t 3) (.c (.int .i64 (.lit 0)))⟩,
 ⟨some 37,false,none,iLoad (.t 36)⟩,
 ⟨some 38,true,none,iCall (.c (.func (.func 8) [] [])) [(.t 37),(.c (.int .i64 (.lit 10)))]⟩])
 (cBlock 0 (cSeq (cOps [⟨some 60,false,none,iCmp .eql (.t 38) (.c (.int .i64 (.lit 0)))⟩,
 ⟨some 59,true,none,iMov (.t 60)⟩])
 (cCond (.t 59) (cOps [⟨some 61,false,none,iFaddr 0 (.t 2)⟩,
 ⟨some 62,false,none,iFaddr 1 (.t 61)⟩,
 ⟨some 63,false,none,iLoad (.t 62)⟩,
 ⟨some 64,false,none,iFaddr 0 (.t 2)⟩,
 ⟨some 65,false,none,iFaddr 0 (.t 64)⟩,
 ⟨some 66,false,none,iLoad (.t 65)⟩,
 ⟨some 67,false,none,iMov (.t 6)⟩,
 ⟨some 68,false,none,iArith .add (.t 66) (.t 67)⟩,
 ⟨some 69,false,none,iMin [(.t 63),(.t 68)]⟩,
 ⟨some 70,false,none,iFaddr 0 (.t 5)⟩,
 ⟨some 71,false,none,iFaddr 0 (.t 70)⟩,
 ⟨none,false,none,iStore 1 (.t 71) (.t 69)⟩]) (cSeq (cOps [⟨some 73,false,none,iCmp .eql (.t 38) (.c (.int .i64 (.lit 1)))⟩,
 ⟨some 72,true,none,iMov (.t 73)⟩])
 (cCond (.t 72) (cOps [⟨some 74,false,none,iFaddr 2 (.t 2)⟩,
 ⟨some 75,false,none,iFaddr 1 (.t 74)⟩,
 ⟨some 76,false,none,iLoad (.t 75)⟩,
 ⟨some 77,false,none,iFaddr 2 (.t 2)⟩,
 ⟨some 78,false,none,iFaddr 0 (.t 77)⟩,
 ⟨some 79,false,none,iLoad (.t 78)⟩,
 ⟨some 80,false,none,iMov (.t 6)⟩,
 ⟨some 81,false,none,iArith .add (.t 79) (.t 80)⟩,
 ⟨some 82,false,none,iMin [(.t 76),(.t 81)]⟩,
 ⟨some 83,false,none,iFaddr 2 (.t 5)⟩,
 ⟨some 84,false,none,iFaddr 0 (.t 83)⟩,
 ⟨none,false,none,iStore 1 (.t 84) (.t 82)⟩]) (cSeq (cOps [⟨some 86,false,none,iCmp .eql (.t 38) (.c (.int .i64 (.lit 2)))⟩,
 ⟨some 85,true,none,iMov (.t 86)⟩])
 (cCond (.t 85) (dOps 0 [⟨⟨some 87,false,none,iFaddr 4 (.t 2)⟩,[2],false,0,0,none,[]⟩,
 ⟨⟨some 88,false,none,iLoad (.t 87)⟩,[87],false,0,0,none,[]⟩,
 ⟨⟨some 89,false,none,iMov (.t 6)⟩,[6],false,0,0,none,[]⟩,
 ⟨⟨some 90,false,none,iArith .add (.t 88) (.t 89)⟩,[88,89],false,0,0,none,[]⟩,
 ⟨⟨some 91,false,none,iMin [(.c (.int .i64 (.lit 99))),(.t 90)]⟩,[90],false,0,0,none,[]⟩,
 ⟨⟨some 92,false,none,iFaddr 5 (.t 2)⟩,[2],false,0,1,none,[]⟩,
 ⟨⟨some 93,false,none,iLoad (.t 92)⟩,[92],false,0,1,none,[]⟩,
 ⟨⟨some 94,false,none,iMov (.t 6)⟩,[6],false,0,1,none,[]⟩,
 ⟨⟨some 95,false,none,iArith .add (.t 93) (.t 94)⟩,[93,94],false,0,1,none,[]⟩,
 ⟨⟨some 96,false,none,iMin [(.c (.int .i64 (.lit 99))),(.t 95)]⟩,[95],false,0,1,none,[]⟩,
 ⟨⟨some 97,false,none,iFaddr 4 (.t 5)⟩,[5],false,0,0,none,[]⟩,
 ⟨⟨none,false,none,iStore 1 (.t 97) (.t 91)⟩,[97,91],true,0,0,none,[]⟩,
 ⟨⟨some 98,false,none,iFaddr 5 (.t 5)⟩,[5],false,1,1,none,[]⟩,
 ⟨⟨none,false,none,iStore 1 (.t 98) (.t 96)⟩,[98,96],true,1,0,none,[]⟩]) (cSeq (cOps [⟨some 100,false,none,iCmp .eql (.t 38) (.c (.int .i64 (.lit 3)))⟩,
 ⟨some 99,true,none,iMov (.t 100)⟩])
 (cCond (.t 99) (cOps [⟨some 101,false,none,iFaddr 6 (.t 2)⟩,
 ⟨some 102,false,none,iLoad (.t 101)⟩,
 ⟨some 103,false,none,iMov (.t 6)⟩,
 ⟨some 104,false,none,iArith .add (.t 102) (.t 103)⟩,
 ⟨some 105,false,none,iMin [(.c (.int .i64 (.lit 20))),(.t 104)]⟩,
 ⟨some 106,false,none,iFaddr 6 (.t 5)⟩,
 ⟨none,false,none,iStore 1 (.t 106) (.t 105)⟩]) (cSeq (cOps [⟨some 108,false,none,iCmp .eql (.t 38) (.c (.int .i64 (.lit 4)))⟩,
 ⟨some 107,true,none,iMov (.t 108)⟩])
 (cCond (.t 107) (cOps [⟨some 109,false,none,iFaddr 7 (.t 2)⟩,
 ⟨some 110,false,none,iLoad (.t 109)⟩,
 ⟨some 111,false,none,iMov (.t 6)⟩,
 ⟨some 112,false,none,iArith .add (.t 110) (.t 111)⟩,
 ⟨some 113,false,none,iMin [(.c (.int .i64 (.lit 20))),(.t 112)]⟩,
 ⟨some 114,false,none,iFaddr 7 (.t 5)⟩,
 ⟨none,false,none,iStore 1 (.t 114) (.t 113)⟩]) (cSeq (cOps [⟨some 116,false,none,iCmp .eql (.t 38) (.c (.int .i64 (.lit 5)))⟩,
 ⟨some 115,true,none,iMov (.t 116)⟩])
 (cCond (.t 115) (dOps 0 [⟨⟨some 117,false,none,iFaddr 22 (.t 5)⟩,[5],false,0,0,none,[]⟩,
 ⟨⟨some 118,false,none,iLoad (.t 117)⟩,[117],false,0,0,none,[]⟩,
 ⟨⟨some 119,false,none,iMov (.t 7)⟩,[7],false,0,0,none,[]⟩,
 ⟨⟨some 120,false,none,iFaddr 22 (.t 2)⟩,[2],false,0,0,none,[]⟩,
 ⟨⟨some 121,false,none,iLoad (.t 120)⟩,[120],false,0,0,none,[]⟩,
 ⟨⟨some 122,false,none,iMov (.t 7)⟩,[7],false,0,0,none,[]⟩,
 ⟨⟨some 123,false,none,iIaddr 4 (.t 121) (.t 122)⟩,[121,122],false,0,0,none,[]⟩,
 ⟨⟨some 124,false,none,iFaddr 3 (.t 123)⟩,[123],false,0,0,none,[]⟩,
 ⟨⟨some 125,false,none,iLoad (.t 124)⟩,[124],false,0,0,none,[]⟩,
 ⟨⟨some 126,false,none,iMov (.t 6)⟩,[6],false,0,0,none,[]⟩,
 ⟨⟨some 127,false,none,iArith .add (.t 125) (.t 126)⟩,[125,126],false,0,0,none,[]⟩,
 ⟨⟨some 128,false,none,iMin [(.c (.int .i64 (.lit 5))),(.t 127)]⟩,[127],false,0,0,none,[]⟩,
 ⟨⟨some 129,false,none,iIaddr 4 (.t 118) (.t 119)⟩,[118,119],false,0,0,none,[]⟩,
 ⟨⟨some 130,false,none,iFaddr 3 (.t 129)⟩,[129],false,0,0,none,[]⟩,
 ⟨⟨none,false,none,iStore 1 (.t 130) (.t 128)⟩,[130,128],true,0,0,none,[]⟩]) (cSeq (cOps [⟨some 132,false,none,iCmp .eql (.t 38) (.c (.int .i64 (.lit 6)))⟩,
 ⟨some 131,true,none,iMov (.t 132)⟩])
 (cCond (.t 131) (dOps 0 [⟨⟨some 133,false,none,iFaddr 22 (.t 5)⟩,[5],false,0,0,none,[]⟩,
 ⟨⟨some 134,false,none,iLoad (.t 133)⟩,[133],false,0,0,none,[]⟩,
 ⟨⟨some 135,false,none,iMov (.t 7)⟩,[7],false,0,0,none,[]⟩,
 ⟨⟨some 136,false,none,iFaddr 22 (.t 2)⟩,[2],false,0,0,none,[]⟩,
 ⟨⟨some 137,false,none,iLoad (.t 136)⟩,[136],false,0,0,none,[]⟩,
 ⟨⟨some 138,false,none,iMov (.t 7)⟩,[7],false,0,0,none,[]⟩,
 ⟨⟨some 139,false,none,iIaddr 4 (.t 137) (.t 138)⟩,[137,138],false,0,0,none,[]⟩,
 ⟨⟨some 140,false,none,iFaddr 0 (.t 139)⟩,[139],false,0,0,none,[]⟩,
 ⟨⟨some 141,false,none,iFaddr 0 (.t 140)⟩,[140],false,0,0,none,[]⟩,
 ⟨⟨some 142,false,none,iLoad (.t 141)⟩,[141],false,0,0,none,[]⟩,
 ⟨⟨some 143,false,none,iFaddr 22 (.t 2)⟩,[2],false,0,0,none,[]⟩,
 ⟨⟨some 144,false,none,iLoad (.t 143)⟩,[143],false,0,0,none,[]⟩,
 ⟨⟨some 145,false,none,iMov (.t 7)⟩,[7],false,0,0,none,[]⟩,
 ⟨⟨some 146,false,none,iIaddr 4 (.t 144) (.t 145)⟩,[144,145],false,0,0,none,[]⟩,
 ⟨⟨some 147,false,none,iFaddr 0 (.t 146)⟩,[146],false,0,0,none,[]⟩,
 ⟨⟨some 148,false,none,iFaddr 1 (.t 147)⟩,[147],false,0,0,none,[]⟩,
 ⟨⟨some 149,false,none,iLoad (.t 148)⟩,[148],false,0,0,none,[]⟩,
 ⟨⟨some 150,false,none,iMov (.t 6)⟩,[6],false,0,0,none,[]⟩,
 ⟨⟨some 151,false,none,iArith .sub (.t 149) (.t 150)⟩,[149,150],false,0,0,none,[]⟩,
 ⟨⟨some 152,false,none,iMax [(.t 142),(.t 151)]⟩,[142,151],false,0,0,none,[]⟩,
 ⟨⟨some 153,false,none,iIaddr 4 (.t 134) (.t 135)⟩,[134,135],false,0,0,none,[]⟩,
 ⟨⟨some 154,false,none,iFaddr 0 (.t 153)⟩,[153],false,0,0,none,[]⟩,
 ⟨⟨some 155,false,none,iFaddr 1 (.t 154)⟩,[154],false,0,0,none,[]⟩,
 ⟨⟨none,false,none,iStore 1 (.t 155) (.t 152)⟩,[155,152],true,0,0,none,[]⟩]) (cSeq (cOps [⟨some 157,false,none,iCmp .eql (.t 38) (.c (.int .i64 (.lit 7)))⟩,
 ⟨some 156,true,none,iMov (.t 157)⟩])
 (cCond (.t 156) (cOps [⟨some 158,false,none,iFaddr 21 (.t 2)⟩,
 ⟨some 159,false,none,iLoad (.t 158)⟩,
 ⟨some 160,false,none,iMov (.t 6)⟩,
 ⟨some 161,false,none,iArith .sub (.t 159) (.t 160)⟩,
 ⟨some 162,false,none,iMax [(.c (.int .i64 (.lit 0))),(.t 161)]⟩,
 ⟨some 163,false,none,iFaddr 21 (.t 5)⟩,
 ⟨none,false,none,iStore 1 (.t 163) (.t 162)⟩]) (cSeq (cOps [⟨some 165,false,none,iCmp .eql (.t 38) (.c (.int .i64 (.lit 8)))⟩,
 ⟨some 164,true,none,iMov (.t 165)⟩])
 (cCond (.t 164) (cOps [⟨some 166,false,none,iFaddr 20 (.t 2)⟩,
 ⟨some 167,false,none,iLoad (.t 166)⟩,
 ⟨some 168,false,none,iMov (.t 6)⟩,
 ⟨some 169,false,none,iArith .sub (.t 167) (.t 168)⟩,
 ⟨some 170,false,none,iMax [(.c (.int .i64 (.lit 0))),(.t 169)]⟩,
 ⟨some 171,false,none,iFaddr 20 (.t 5)⟩,
 ⟨none,false,none,iStore 1 (.t 171) (.t 170)⟩]) (cSeq (cOps [⟨some 39,false,none,iMov (.t 6)⟩,
 ⟨some 40,false,none,iCall (.c (.func (.func 8) [] [])) [(.t 39),(.c (.int .i64 (.lit 2)))]⟩,
 ⟨some 8,true,none,iMov (.t 40)⟩])
 (dOps 0 [⟨⟨some 41,false,none,iMov (.t 8)⟩,[8],false,0,0,none,[]⟩,
 ⟨⟨some 42,false,none,iMov (.t 8)⟩,[8],false,0,1,none,[]⟩,
 ⟨⟨some 43,false,none,iMov (.t 8)⟩,[8],false,0,0,none,[]⟩,
 ⟨⟨some 44,false,none,iFaddr 8 (.t 2)⟩,[2],false,0,0,none,[]⟩,
 ⟨⟨some 45,false,none,iIaddrA 2 2 (.t 44) (.t 43)⟩,[44,43],false,0,0,none,[]⟩,
 ⟨⟨some 46,false,none,iFaddr 0 (.t 45)⟩,[45],false,0,0,none,[]⟩,
 ⟨⟨some 47,false,none,iLoad (.t 46)⟩,[46],false,0,0,none,[]⟩,
 ⟨⟨some 48,false,none,iMov (.t 8)⟩,[8],false,0,1,none,[]⟩,
 ⟨⟨some 49,false,none,iFaddr 12 (.t 2)⟩,[2],false,0,1,none,[]⟩,
 ⟨⟨some 50,false,none,iIaddrA 2 2 (.t 49) (.t 48)⟩,[49,48],false,0,1,none,[]⟩,
 ⟨⟨some 51,false,none,iFaddr 0 (.t 50)⟩,[50],false,0,1,none,[]⟩,
 ⟨⟨some 52,false,none,iLoad (.t 51)⟩,[51],false,0,1,none,[]⟩,
 ⟨⟨some 53,false,none,iFaddr 8 (.t 5)⟩,[5],false,0,0,none,[]⟩,
 ⟨⟨some 54,false,none,iIaddrA 2 2 (.t 53) (.t 41)⟩,[53,41],false,0,0,none,[]⟩,
 ⟨⟨some 55,false,none,iFaddr 1 (.t 54)⟩,[54],false,0,0,none,[]⟩,
 ⟨⟨none,false,none,iStore 1 (.t 55) (.t 47)⟩,[55,47],true,0,0,none,[]⟩,
 ⟨⟨some 56,false,none,iFaddr 12 (.t 5)⟩,[5],false,0,1,none,[]⟩,
 ⟨⟨some 57,false,none,iIaddrA 2 2 (.t 56) (.t 42)⟩,[56,42],false,1,1,none,[]⟩,
 ⟨⟨some 58,false,none,iFaddr 1 (.t 57)⟩,[57],false,1,1,none,[]⟩,
 ⟨⟨none,false,none,iStore 1 (.t 58) (.t 52)⟩,[58,52],true,1,0,none,[]⟩]))))))))))))))))))))))
 (cSeq (cOps [⟨some 173,false,none,iLoadN 23 (.t 2)⟩,
 ⟨some 174,false,none,iCall (.c (.func (.func 9) [] [])) [(.t 173)]⟩,
 ⟨some 172,false,none,iMov (.t 174)⟩,
 ⟨some 175,false,none,iExtract 0 (.t 172)⟩,
 ⟨some 176,false,none,iExtract 1 (.t 172)⟩,
 ⟨some 9,true,none,iMov (.t 175)⟩,
 ⟨some 10,true,none,iMov (.t 176)⟩])
 (cSeq (cOps [⟨some 178,false,none,iLoadN 23 (.t 5)⟩,
 ⟨some 179,false,none,iCall (.c (.func (.func 9) [] [])) [(.t 178)]⟩,
 ⟨some 177,false,none,iMov (.t 179)⟩,
 ⟨some 180,false,none,iExtract 0 (.t 177)⟩,
 ⟨some 181,false,none,iExtract 1 (.t 177)⟩,
 ⟨some 11,true,none,iMov (.t 180)⟩,
 ⟨some 12,true,none,iMov (.t 181)⟩])
 (cSeq (cOps [⟨some 183,false,none,iLoadN 23 (.t 2)⟩,
 ⟨some 184,false,none,iCall (.c (.func (.func 10) [] [])) [(.t 183)]⟩,
 ⟨some 182,false,none,iMov (.t 184)⟩,
 ⟨some 185,false,none,iExtract 0 (.t 182)⟩,
 ⟨some 186,false,none,iExtract 1 (.t 182)⟩,
 ⟨some 13,true,none,iMov (.t 185)⟩,
 ⟨some 14,true,none,iMov (.t 186)⟩])
 (cSeq (cOps [⟨some 188,false,none,iLoadN 23 (.t 5)⟩,
 ⟨some 189,false,none,iCall (.c (.func (.func 10) [] [])) [(.t 188)]⟩,
 ⟨some 187,false,none,iMov (.t 189)⟩,
 ⟨some 190,false,none,iExtract 0 (.t 187)⟩,
 ⟨some 191,false,none,iExtract 1 (.t 187)⟩,
 ⟨some 15,true,none,iMov (.t 190)⟩,
 ⟨some 16,true,none,iMov (.t 191)⟩])
 (cSeq (cSeq (cOps [⟨some 192,false,none,iMov (.t 14)⟩,
 ⟨some 193,false,none,iCmp .neq (.t 192) (.c (.int .i64 (.lit 0)))⟩,
 ⟨some 194,false,none,iMov (.t 193)⟩,
 ⟨some 195,false,some (194,false),iMov (.t 16)⟩,
 ⟨some 196,false,some (194,false),iCmp .neq (.t 195) (.c (.int .i64 (.lit 0)))⟩,
 ⟨some 197,false,none,iPick (.t 194) (.c (.bool (.lit true))) (.t 196)⟩,
 ⟨some 198,false,none,iMov (.t 197)⟩,
 ⟨some 199,false,some (198,false),iMov (.t 15)⟩,
 ⟨some 200,false,some (198,false),iMov (.t 13)⟩,
 ⟨some 201,false,some (198,false),iCmp .lss (.t 199) (.t 200)⟩,
 ⟨some 202,true,none,iPick (.t 198) (.c (.bool (.lit true))) (.t 201)⟩])
 (cCond (.t 202) (cSeq (cOps [⟨some 4,true,none,iMov (.c (.bool (.lit false)))⟩])
 cRet) cSkip))
 (cSeq (cSeq (cOps [⟨some 203,false,none,iMov (.t 10)⟩,
 ⟨some 204,true,none,iCmp .neq (.t 203) (.c (.int .i64 (.lit 0)))⟩])
 (cCond (.t 204) (cSeq (cOps [⟨some 205,false,none,iMov (.t 10)⟩,
 ⟨some 206,false,none,iCmp .eql (.t 205) (.c (.int .i64 (.lit 4)))⟩,
 ⟨some 207,false,none,iMov (.t 206)⟩,
 ⟨some 208,false,some (207,true),iMov (.t 12)⟩,
 ⟨some 209,false,some (207,true),iCmp .eql (.t 208) (.c (.int .i64 (.lit 0)))⟩,
 ⟨some 210,false,some (207,true),iMov (.t 209)⟩,
 ⟨some 211,false,some (210,false),iMov (.t 12)⟩,
 ⟨some 212,false,some (210,false),iMov (.t 10)⟩,
 ⟨some 213,false,some (210,false),iCmp .eql (.t 211) (.t 212)⟩,
 ⟨some 214,false,some (207,true),iPick (.t 210) (.c (.bool (.lit true))) (.t 213)⟩,
 ⟨some 215,false,none,iPick (.t 207) (.t 214) (.c (.bool (.lit false)))⟩,
 ⟨some 216,false,none,iMov (.t 215)⟩,
 ⟨some 217,false,some (216,true),iCall (.c (.func (.func 7) [] [])) []⟩,
 ⟨some 218,false,none,iPick (.t 216) (.t 217) (.c (.bool (.lit false)))⟩,
 ⟨some 4,true,none,iMov (.t 218)⟩])
 cRet) cSkip))
 (cSeq (cOps [⟨some 219,false,none,iMov (.t 12)⟩,
 ⟨some 220,false,none,iCmp .eql (.t 219) (.c (.int .i64 (.lit 0)))⟩,
 ⟨some 221,false,none,iMov (.t 220)⟩,
 ⟨some 222,false,some (221,true),iLoadN 23 (.t 5)⟩,
 ⟨some 223,false,some (221,true),iMov (.t 11)⟩,
 ⟨some 224,false,some (221,true),iCall (.c (.func (.func 11) [] [])) [(.t 222),(.t 223)]⟩,
 ⟨some 225,false,none,iPick (.t 221) (.t 224) (.c (.bool (.lit false)))⟩,
 ⟨some 226,false,none,iMov (.t 225)⟩,
 ⟨some 227,false,some (226,true),iMov (.t 11)⟩,
 ⟨some 228,false,some (226,true),iCall (.c (.func (.func 12) [] [])) [(.t 227)]⟩,
 ⟨some 229,false,some (226,true),iMov (.t 9)⟩,
 ⟨some 230,false,some (226,true),iCall (.c (.func (.func 12) [] [])) [(.t 229)]⟩,
 ⟨some 231,false,some (226,true),iCmp .leq (.t 228) (.t 230)⟩,
 ⟨some 232,false,none,iPick (.t 226) (.t 231) (.c (.bool (.lit false)))⟩,
 ⟨some 233,false,none,iMov (.t 232)⟩,
 ⟨some 234,false,some (233,true),iCall (.c (.func (.func 7) [] [])) []⟩,
 ⟨some 235,false,none,iPick (.t 233) (.t 234) (.c (.bool (.lit false)))⟩,
 ⟨some 4,true,none,iMov (.t 235)⟩])
 cRet))))))))))))),[.t 4]⟩
noncomputable def Tryd.kp6:List Nat:=[0,1,2,3,4,5,73,98]
noncomputable def Tryd.cf6:CF:=⟨1,(cSeq (cOps [⟨some 1,true,none,iBox 27 (.t 0)⟩,
 ⟨some 2,true,none,iMov (.c (.bool (.lit false)))⟩])
 (cSeq (cOps [⟨some 6,false,none,iLoadN 23 (.t 1)⟩,
 ⟨some 7,false,none,iCall (.c (.func (.func 22) [] [])) [(.t 6)]⟩,
 ⟨some 8,false,none,iCmp .eql (.t 7) (.c (.int .i64 (.lit 0)))⟩,
 ⟨some 9,false,none,iMov (.t 8)⟩,
 ⟨some 10,false,some (9,true),iFaddr 4 (.t 1)⟩,
 ⟨some 11,false,some (9,true),iLoad (.t 10)⟩,
 ⟨some 12,false,some (9,true),iCall (.c (.func (.func 17) [] [])) [(.t 11),(.c (.int .i64 (.lit 1))),(.c (.int .i64 (.lit 99)))]⟩,
 ⟨some 13,false,none,iPick (.t 9) (.t 12) (.c (.bool (.lit false)))⟩,
 ⟨some 14,false,none,iMov (.t 13)⟩,
 ⟨some 15,false,some (14,true),iFaddr 5 (.t 1)⟩,
 ⟨some 16,false,some (14,true),iLoad (.t 15)⟩,
 ⟨some 17,false,some (14,true),iCall (.c (.func (.func 17) [] [])) [(.t 16),(.c (.int .i64 (.lit 1))),(.c (.int .i64 (.lit 99)))]⟩,
 ⟨some 18,false,none,iPick (.t 14) (.t 17) (.c (.bool (.lit false)))⟩,
 ⟨some 19,false,none,iMov (.t 18)⟩,
 ⟨some 20,false,some (19,true),iFaddr 0 (.t 1)⟩,
 ⟨some 21,false,some (19,true),iLoadN 2 (.t 20)⟩,
 ⟨some 22,false,some (19,true),iFaddr 4 (.t 1)⟩,
 ⟨some 23,false,some (19,true),iLoad (.t 22)⟩,
 ⟨some 24,false,some (19,true),iCall (.c (.func (.func 23) [] [])) [(.t 21),(.c (.int .i64 (.lit 0))),(.t 23)]⟩,
 ⟨some 25,false,none,iPick (.t 19) (.t 24) (.c (.bool (.lit false)))⟩,
 ⟨some 26,false,none,iMov (.t 25)⟩,
 ⟨some 27,false,some (26,true),iFaddr 2 (.t 1)⟩,
 ⟨some 28,false,some (26,true),iLoadN 2 (.t 27)⟩,
 ⟨some 29,false,some (26,true),iFaddr 5 (.t 1)⟩,
 ⟨some 30,false,some (26,true),iLoad (.t 29)⟩,
 ⟨some 31,false,some (26,true),iCall (.c (.func (.func 23) [] [])) [(.t 28),(.c (.int .i64 (.lit 0))),(.t 30)]⟩,
 ⟨some 32,false,none,iPick (.t 26) (.t 31) (.c (.bool (.lit false)))⟩,
 ⟨some 33,false,none,iMov (.t 32)⟩,
 ⟨some 34,false,some (33,true),iFaddr 6 (.t 1)⟩,
 ⟨some 35,false,some (33,true),iLoad (.t 34)⟩,
 ⟨some 36,false,some (33,true),iCall (.c (.func (.func 17) [] [])) [(.t 35),(.c (.int .i64 (.lit 1))),(.c (.int .i64 (.lit 20)))]⟩,
 ⟨some 37,false,none,iPick (.t 33) (.t 36) (.c (.bool (.lit false)))⟩,
 ⟨some 38,false,none,iMov (.t 37)⟩,
 ⟨some 39,false,some (38,true),iFaddr 7 (.t 1)⟩,
 ⟨some 40,false,some (38,true),iLoad (.t 39)⟩,
 ⟨some 41,false,some (38,true),iCall (.c (.func (.func 17) [] [])) [(.t 40),(.c (.int .i64 (.lit 1))),(.c (.int .i64 (.lit 20)))]⟩,
 ⟨some 42,false,none,iPick (.t 38) (.t 41) (.c (.bool (.lit false)))⟩,
 ⟨some 3,true,none,iMov (.t 42)⟩])
 (cSeq (cOps [⟨some 43,false,none,iMov (.t 3)⟩,
 ⟨some 44,false,none,iMov (.t 43)⟩,
 ⟨some 45,false,some (44,true),iFaddr 16 (.t 1)⟩,
 ⟨some 46,false,some (44,true),iLoadN 2 (.t 45)⟩,
 ⟨some 47,false,some (44,true),iCall (.c (.func (.func 23) [] [])) [(.t 46),(.c (.int .i64 (.lit 0))),(.c (.int .i64 (.lit 60)))]⟩,
 ⟨some 48,false,none,iPick (.t 44) (.t 47) (.c (.bool (.lit false)))⟩,
 ⟨some 49,false,none,iMov (.t 48)⟩,
 ⟨some 50,false,some (49,true),iFaddr 18 (.t 1)⟩,
 ⟨some 51,false,some (49,true),iLoadN 2 (.t 50)⟩,
 ⟨some 52,false,some (49,true),iCall (.c (.func (.func 23) [] [])) [(.t 51),(.c (.int .i64 (.lit 0))),(.c (.int .i64 (.lit 60)))]⟩,
 ⟨some 53,false,none,iPick (.t 49) (.t 52) (.c (.bool (.lit false)))⟩,
 ⟨some 54,false,none,iMov (.t 53)⟩,
 ⟨some 55,false,some (54,true),iFaddr 20 (.t 1)⟩,
 ⟨some 56,false,some (54,true),iLoad (.t 55)⟩,
 ⟨some 57,false,some (54,true),iFaddr 5 (.t 1)⟩,
 ⟨some 58,false,some (54,true),iLoad (.t 57)⟩,
 ⟨some 59,false,some (54,true),iCall (.c (.func (.func 17) [] [])) [(.t 56),(.c (.int .i64 (.lit 0))),(.t 58)]⟩,
 ⟨some 60,false,none,iPick (.t 54) (.t 59) (.c (.bool (.lit false)))⟩,
 ⟨some 61,false,none,iMov (.t 60)⟩,
 ⟨some 62,false,some (61,true),iFaddr 21 (.t 1)⟩,
 ⟨some 63,false,some (61,true),iLoad (.t 62)⟩,
 ⟨some 64,false,some (61,true),iCall (.c (.func (.func 17) [] [])) [(.t 63),(.c (.int .i64 (.lit 0))),(.c (.int .i64 (.lit 60)))]⟩,
 ⟨some 65,false,none,iPick (.t 61) (.t 64) (.c (.bool (.lit false)))⟩,
 ⟨some 66,false,none,iMov (.t 65)⟩,
 ⟨some 67,false,some (66,true),iFaddr 22 (.t 1)⟩,
 ⟨some 68,false,some (66,true),iLoad (.t 67)⟩,
 ⟨some 69,false,some (66,true),iLenS (.t 68)⟩,
 ⟨some 70,false,some (66,true),iCall (.c (.func (.func 17) [] [])) [(.t 69),(.c (.int .i64 (.lit 1))),(.c (.int .i64 (.lit 5)))]⟩,
 ⟨some 71,false,none,iPick (.t 66) (.t 70) (.c (.bool (.lit false)))⟩,
 ⟨some 3,true,none,iMov (.t 71)⟩])
 (cSeq (cSeq (cOps [⟨some 4,true,none,iMov (.c (.int .i64 (.lit 0)))⟩])
 (cBlock 0 (cLoop (cSeq (cSeq (cOps [⟨some 72,false,none,iMov (.t 4)⟩,
 ⟨some 73,true,none,iCmp .lss (.t 72) (.c (.int .i64 (.lit 2)))⟩])
 (cCond (.t 73) cSkip (cExit 0)))
 (cSeq (cBlock 1 (cOps [⟨some 76,false,none,iMov (.t 3)⟩,
 ⟨some 77,false,none,iMov (.t 76)⟩,
 ⟨some 78,false,some (77,true),iMov (.t 4)⟩,
 ⟨some 79,false,some (77,true),iFaddr 8 (.t 1)⟩,
 ⟨some 80,false,some (77,true),iIaddrA 2 2 (.t 79) (.t 78)⟩,
 ⟨some 81,false,some (77,true),iLoadN 2 (.t 80)⟩,
 ⟨some 82,false,some (77,true),iCall (.c (.func (.func 23) [] [])) [(.t 81),(.c (.int .i64 (.lit 0))),(.c (.int .i64 (.lit 3)))]⟩,
 ⟨some 83,false,none,iPick (.t 77) (.t 82) (.c (.bool (.lit false)))⟩,
 ⟨some 84,false,none,iMov (.t 83)⟩,
 ⟨some 85,false,some (84,true),iMov (.t 4)⟩,
 ⟨some 86,false,some (84,true),iFaddr 12 (.t 1)⟩,
 ⟨some 87,false,some (84,true),iIaddrA 2 2 (.t 86) (.t 85)⟩,
 ⟨some 88,false,some (84,true),iLoadN 2 (.t 87)⟩,
 ⟨some 89,false,some (84,true),iCall (.c (.func (.func 23) [] [])) [(.t 88),(.c (.int .i64 (.lit 0))),(.c (.int .i64 (.lit 3)))]⟩,
 ⟨some 90,false,none,iPick (.t 84) (.t 89) (.c (.bool (.lit false)))⟩,
 ⟨some 3,true,none,iMov (.t 90)⟩]))
 (cOps [⟨some 74,false,none,iMov (.t 4)⟩,
 ⟨some 75,false,none,iArith .add (.t 74) (.c (.int .i64 (.lit 1)))⟩,
 ⟨some 4,true,none,iMov (.t 75)⟩]))))))
 (cSeq (cSeq (cOps [⟨some 5,true,none,iMov (.c (.int .i64 (.lit 0)))⟩])
 (cBlock 2 (cLoop (cSeq (cSeq (cOps [⟨some 91,false,none,iMov (.t 3)⟩,
 ⟨some 92,false,none,iMov (.t 91)⟩,
 ⟨some 93,false,some (92,true),iMov (.t 5)⟩,
 ⟨some 94,false,some (92,true),iFaddr 22 (.t 1)⟩,
 ⟨some 95,false,some (92,true),iLoad (.t 94)⟩,
 ⟨some 96,false,some (92,true),iLenS (.t 95)⟩,
 ⟨some 97,false,some (92,true),iCmp .lss (.t 93) (.t 96)⟩,
 ⟨some 98,true,none,iPick (.t 92) (.t 97) (.c (.bool (.lit false)))⟩])
 (cCond (.t 98) cSkip (cExit 2)))
 (cSeq (cBlock 3 (cOps [⟨some 101,false,none,iFaddr 22 (.t 1)⟩,
 ⟨some 102,false,none,iLoad (.t 101)⟩,
 ⟨some 103,false,none,iMov (.t 5)⟩,
 ⟨some 104,false,none,iIaddr 4 (.t 102) (.t 103)⟩,
 ⟨some 105,false,none,iFaddr 0 (.t 104)⟩,
 ⟨some 106,false,none,iLoadN 2 (.t 105)⟩,
 ⟨some 107,false,none,iCall (.c (.func (.func 23) [] [])) [(.t 106),(.c (.int .i64 (.lit 1))),(.c (.int .i64 (.lit 60)))]⟩,
 ⟨some 108,false,none,iMov (.t 107)⟩,
 ⟨some 109,false,some (108,true),iFaddr 22 (.t 1)⟩,
 ⟨some 110,false,some (108,true),iLoad (.t 109)⟩,
 ⟨some 111,false,some (108,true),iMov (.t 5)⟩,
 ⟨some 112,false,some (108,true),iIaddr 4 (.t 110) (.t 111)⟩,
 ⟨some 113,false,some (108,true),iFaddr 3 (.t 112)⟩,
 ⟨some 114,false,some (108,true),iLoad (.t 113)⟩,
 ⟨some 115,false,some (108,true),iCall (.c (.func (.func 17) [] [])) [(.t 114),(.c (.int .i64 (.lit 0))),(.c (.int .i64 (.lit 5)))]⟩,
 ⟨some 116,false,none,iPick (.t 108) (.t 115) (.c (.bool (.lit false)))⟩,
 ⟨some 3,true,none,iMov (.t 116)⟩]))
 (cOps [⟨some 99,false,none,iMov (.t 5)⟩,
 ⟨some 100,false,none,iArith .add (.t 99) (.c (.int .i64 (.lit 1)))⟩,
 ⟨some 5,true,none,iMov (.t 100)⟩]))))))
 (cSeq (cOps [⟨some 117,false,none,iMov (.t 3)⟩,
 ⟨some 2,true,none,iMov (.t 117)⟩])
 cRet)))))),[.t 2]⟩
noncomputable def Tryd.kp7:List Nat:=[0,1,2,3,4,5,6,7,8,9,10,11,12,74]
noncomputable def Tryd.cf7:CF:=⟨0,(cSeq (cOps [⟨some 0,true,none,iMov (.c (.bool (.lit false)))⟩])
 (cSeq (cOps [⟨some 14,false,none,iCall (.c (.func (.func 25) [] [])) []⟩,
 ⟨some 15,false,none,iCall (.c (.func (.func 24) [] [])) [(.t 14),(.c (.int .i64 (.lit 9)))]⟩,
 ⟨some 13,false,none,iMov (.t 15)⟩,
 ⟨some 16,false,none,iExtract 0 (.t 13)⟩,
 ⟨some 17,false,none,iExtract 1 (.t 13)⟩,
 ⟨some 1,true,none,iAlloc 23 [(.int .i64 (.lit 0)),(.int .i64 (.lit 0))]⟩,
 ⟨none,false,none,iStore 2 (.t 1) (.t 16)⟩,
 ⟨some 2,true,none,iMov (.t 17)⟩])
 (cSeq (cOps [⟨some 19,false,none,iCall (.c (.func (.func 25) [] [])) []⟩,
 ⟨some 20,false,none,iCall (.c (.func (.func 26) [] [])) []⟩,
 ⟨some 21,false,none,iCall (.c (.func (.func 19) [] [])) [(.t 19),(.t 20),(.c (.int .i64 (.lit 3)))]⟩,
 ⟨some 18,false,none,iMov (.t 21)⟩,
 ⟨some 22,false,none,iExtract 0 (.t 18)⟩,
 ⟨some 23,false,none,iExtract 1 (.t 18)⟩,
 ⟨some 24,false,none,iExtract 2 (.t 18)⟩,
 ⟨some 3,true,none,iAlloc 23 [(.int .i64 (.lit 0)),(.int .i64 (.lit 0))]⟩,
 ⟨some 4,true,none,iAlloc 23 [(.int .i64 (.lit 0)),(.int .i64 (.lit 0))]⟩,
 ⟨none,false,none,iStore 2 (.t 3) (.t 22)⟩,
 ⟨none,false,none,iStore 2 (.t 4) (.t 23)⟩,
 ⟨some 5,true,none,iMov (.t 24)⟩])
 (cSeq (cOps [⟨some 26,false,none,iCall (.c (.func (.func 25) [] [])) []⟩,
 ⟨some 27,false,none,iCall (.c (.func (.func 27) [] [])) []⟩,
 ⟨some 28,false,none,iCall (.c (.func (.func 16) [] [])) [(.t 26),(.t 27)]⟩,
 ⟨some 25,false,none,iMov (.t 28)⟩,
 ⟨some 29,false,none,iExtract 0 (.t 25)⟩,
 ⟨some 30,false,none,iExtract 1 (.t 25)⟩,
 ⟨some 6,true,none,iMov (.t 29)⟩,
 ⟨some 7,true,none,iMov (.t 30)⟩])
 (cSeq (cOps [⟨some 32,false,none,iCall (.c (.func (.func 25) [] [])) []⟩,
 ⟨some 33,false,none,iCall (.c (.func (.func 9) [] [])) [(.t 32)]⟩,
 ⟨some 31,false,none,iMov (.t 33)⟩,
 ⟨some 34,false,none,iExtract 0 (.t 31)⟩,
 ⟨some 35,false,none,iExtract 1 (.t 31)⟩,
 ⟨some 8,true,none,iMov (.t 34)⟩,
 ⟨some 9,true,none,iMov (.t 35)⟩])
 (cSeq (cSeq (dOps 0 [⟨⟨some 36,false,none,iMov (.t 2)⟩,[2],false,0,0,none,[]⟩,
 ⟨⟨some 37,false,none,iCmp .neq (.t 36) (.c (.int .i64 (.lit 0)))⟩,[36],false,0,0,none,[]⟩,
 ⟨⟨some 38,false,none,iMov (.t 37)⟩,[37],false,0,0,none,[]⟩,
 ⟨⟨some 39,false,some (38,false),iMov (.t 5)⟩,[38,5],false,0,0,none,[]⟩,
 ⟨⟨some 40,false,some (38,false),iCmp .neq (.t 39) (.c (.int .i64 (.lit 0)))⟩,[38,39],false,0,0,none,[]⟩,
 ⟨⟨some 41,false,none,iPick (.t 38) (.c (.bool (.lit true))) (.t 40)⟩,[38,40],false,0,0,none,[]⟩,
 ⟨⟨some 42,false,none,iMov (.t 41)⟩,[41],false,0,0,none,[]⟩,
 ⟨⟨some 43,false,some (42,false),iMov (.t 7)⟩,[42,7],false,0,0,none,[]⟩,
 ⟨⟨some 44,false,some (42,false),iCmp .neq (.t 43) (.c (.int .i64 (.lit 0)))⟩,[42,43],false,0,0,none,[]⟩,
 ⟨⟨some 45,false,none,iPick (.t 42) (.c (.bool (.lit true))) (.t 44)⟩,[42,44],false,0,0,none,[]⟩,
 ⟨⟨some 46,false,none,iMov (.t 45)⟩,[45],false,0,0,none,[]⟩,
 ⟨⟨some 47,false,some (46,false),iMov (.t 9)⟩,[46,9],false,0,0,none,[]⟩,
 ⟨⟨some 48,false,some (46,false),iCmp .neq (.t 47) (.c (.int .i64 (.lit 0)))⟩,[46,47],false,0,0,none,[]⟩,
 ⟨⟨some 49,false,none,iPick (.t 46) (.c (.bool (.lit true))) (.t 48)⟩,[46,48],false,0,0,none,[]⟩,
 ⟨⟨some 50,false,none,iMov (.t 49)⟩,[49],false,0,0,none,[]⟩,
 ⟨⟨some 51,false,some (50,false),iLoadN 2 (.t 1)⟩,[50,1],false,0,1,none,[]⟩,
 ⟨⟨some 52,false,some (50,false),iCall (.c (.func (.func 20) [] [])) [(.c (.int .i64 (.lit 12))),(.c (.int .i64 (.lit 16)))]⟩,[50],true,0,0,none,[]⟩,
 ⟨⟨some 53,false,some (50,false),iEq true true 2 [(0,.int),(1,.int)] (.t 51) (.t 52)⟩,[50,51,52],false,1,1,none,[]⟩,
 ⟨⟨some 54,false,none,iPick (.t 50) (.c (.bool (.lit true))) (.t 53)⟩,[50,53],false,1,1,none,[]⟩,
 ⟨⟨some 55,false,none,iMov (.t 54)⟩,[54],false,1,1,none,[]⟩,
 ⟨⟨some 56,false,some (55,false),iLoadN 2 (.t 3)⟩,[55,3],false,1,2,none,[]⟩,
 ⟨⟨some 57,false,some (55,false),iCall (.c (.func (.func 20) [] [])) [(.c (.int .i64 (.lit 0))),(.c (.int .i64 (.lit 32)))]⟩,[55],true,1,0,none,[]⟩,
 ⟨⟨some 58,false,some (55,false),iEq true true 2 [(0,.int),(1,.int)] (.t 56) (.t 57)⟩,[55,56,57],false,2,2,none,[]⟩,
 ⟨⟨some 59,false,none,iPick (.t 55) (.c (.bool (.lit true))) (.t 58)⟩,[55,58],false,2,2,none,[]⟩,
 ⟨⟨some 60,false,none,iMov (.t 59)⟩,[59],false,2,2,none,[]⟩,
 ⟨⟨some 61,false,some (60,false),iLoadN 2 (.t 4)⟩,[60,4],false,2,3,none,[]⟩,
 ⟨⟨some 62,false,some (60,false),iCall (.c (.func (.func 20) [] [])) [(.c (.int .i64 (.lit 10))),(.c (.int .i64 (.lit 22)))]⟩,[60],true,2,0,none,[]⟩,
 ⟨⟨some 63,false,some (60,false),iEq true true 2 [(0,.int),(1,.int)] (.t 61) (.t 62)⟩,[60,61,62],false,3,3,none,[]⟩,
 ⟨⟨some 64,false,none,iPick (.t 60) (.c (.bool (.lit true))) (.t 63)⟩,[60,63],false,3,3,none,[]⟩,
 ⟨⟨some 65,false,none,iMov (.t 64)⟩,[64],false,3,3,none,[]⟩,
 ⟨⟨some 66,false,some (65,false),iMov (.t 6)⟩,[65,6],false,3,3,none,[]⟩,
 ⟨⟨some 67,false,some (65,false),iCmp .neq (.t 66) (.c (.int .i64 (.lit 1)))⟩,[65,66],false,3,3,none,[]⟩,
 ⟨⟨some 68,false,none,iPick (.t 65) (.c (.bool (.lit true))) (.t 67)⟩,[65,67],false,3,3,none,[]⟩,
 ⟨⟨some 69,false,none,iMov (.t 68)⟩,[68],false,3,3,none,[]⟩,
 ⟨⟨some 70,false,some (69,false),iMov (.t 8)⟩,[69,8],false,3,4,none,[]⟩,
 ⟨⟨some 71,false,some (69,false),iCall (.c (.func (.func 26) [] [])) []⟩,[69],true,3,0,none,[]⟩,
 ⟨⟨some 72,false,some (69,false),iCall (.c (.func (.func 21) [] [])) [(.t 70),(.t 71)]⟩,[69,70,71],true,4,0,none,[]⟩,
 ⟨⟨some 73,false,some (69,false),iNot (.t 72)⟩,[69,72],false,5,5,none,[]⟩,
 ⟨⟨some 74,true,none,iPick (.t 69) (.c (.bool (.lit true))) (.t 73)⟩,[69,73],false,5,5,none,[]⟩])
 (cCond (.t 74) (cSeq (cOps [⟨some 0,true,none,iMov (.c (.bool (.lit false)))⟩])
 cRet) cSkip))
 (cSeq (cOps [⟨some 76,false,none,iCall (.c (.func (.func 25) [] [])) []⟩,
 ⟨some 77,false,none,iCall (.c (.func (.func 10) [] [])) [(.t 76)]⟩,
 ⟨some 75,false,none,iMov (.t 77)⟩,
 ⟨some 78,false,none,iExtract 0 (.t 75)⟩,
 ⟨some 79,false,none,iExtract 1 (.t 75)⟩,
 ⟨some 10,true,none,iMov (.t 78)⟩,
 ⟨some 2,true,none,iMov (.t 79)⟩])
 (cSeq (cOps [⟨some 81,false,none,iCall (.c (.func (.func 25) [] [])) []⟩,
 ⟨some 82,false,none,iCall (.c (.func (.func 28) [] [])) [(.t 81),(.c (.int .i64 (.lit 2)))]⟩,
 ⟨some 80,false,none,iMov (.t 82)⟩,
 ⟨some 83,false,none,iExtract 0 (.t 80)⟩,
 ⟨some 84,false,none,iExtract 1 (.t 80)⟩,
 ⟨some 11,true,none,iMov (.t 83)⟩,
 ⟨some 5,true,none,iMov (.t 84)⟩])
 (cSeq (cOps [⟨some 86,false,none,iCall (.c (.func (.func 25) [] [])) []⟩,
 ⟨some 87,false,none,iCall (.c (.func (.func 29) [] [])) [(.t 86)]⟩,
 ⟨some 85,false,none,iMov (.t 87)⟩,
 ⟨some 88,false,none,iExtract 0 (.t 85)⟩,
 ⟨some 89,false,none,iExtract 1 (.t 85)⟩,
 ⟨some 12,true,none,iMov (.t 88)⟩,
 ⟨some 7,true,none,iMov (.t 89)⟩])
 (cSeq (cOps [⟨some 90,false,none,iMov (.t 2)⟩,
 ⟨some 91,false,none,iCmp .eql (.t 90) (.c (.int .i64 (.lit 0)))⟩,
 ⟨some 92,false,none,iMov (.t 91)⟩,
 ⟨some 93,false,some (92,true),iMov (.t 5)⟩,
 ⟨some 94,false,some (92,true),iCmp .eql (.t 93) (.c (.int .i64 (.lit 0)))⟩,
 ⟨some 95,false,none,iPick (.t 92) (.t 94) (.c (.bool (.lit false)))⟩,
 ⟨some 96,false,none,iMov (.t 95)⟩,
 ⟨some 97,false,some (96,true),iMov (.t 7)⟩,
 ⟨some 98,false,some (96,true),iCmp .eql (.t 97) (.c (.int .i64 (.lit 0)))⟩,
 ⟨some 99,false,none,iPick (.t 96) (.t 98) (.c (.bool (.lit false)))⟩,
 ⟨some 100,false,none,iMov (.t 99)⟩,
 ⟨some 101,false,some (100,true),iMov (.t 10)⟩,
 ⟨some 102,false,some (100,true),iCmp .eql (.t 101) (.c (.int .i64 (.lit 4)))⟩,
 ⟨some 103,false,none,iPick (.t 100) (.t 102) (.c (.bool (.lit false)))⟩,
 ⟨some 104,false,none,iMov (.t 103)⟩,
 ⟨some 105,false,some (104,true),iMov (.t 11)⟩,
 ⟨some 106,false,some (104,true),iCmp .eql (.t 105) (.c (.int .i64 (.lit 4)))⟩,
 ⟨some 107,false,none,iPick (.t 104) (.t 106) (.c (.bool (.lit false)))⟩,
 ⟨some 108,false,none,iMov (.t 107)⟩,
 ⟨some 109,false,some (108,true),iMov (.t 12)⟩,
 ⟨some 110,false,some (108,true),iCmp .eql (.t 109) (.c (.int .i64 (.lit 18)))⟩,
 ⟨some 111,false,none,iPick (.t 108) (.t 110) (.c (.bool (.lit false)))⟩,
 ⟨some 0,true,none,iMov (.t 111)⟩])
 cRet)))))))))),[.t 0]⟩
noncomputable def Tryd.kp8:List Nat:=[0,1,4,5,7,12]
noncomputable def Tryd.cf8:CF:=⟨2,(cSeq (cOps [⟨some 4,true,none,iMov (.c (.int .i64 (.lit 0)))⟩])
 (cSeq (cSeq (cOps [⟨some 6,false,none,iMov (.t 1)⟩,
 ⟨some 7,true,none,iCmp .lss (.t 6) (.c (.int .i64 (.lit 1)))⟩])
 (cCond (.t 7) (cSeq (cOps [⟨some 4,true,none,iMov (.c (.int .i64 (.lit 0)))⟩])
 cRet) cSkip))
 (cSeq (cOps [⟨some 8,false,none,iMov (.t 0)⟩,
 ⟨some 9,false,none,iMov (.t 1)⟩,
 ⟨some 10,false,none,iArith .rem (.t 8) (.t 9)⟩,
 ⟨some 5,true,none,iMov (.t 10)⟩])
 (cSeq (cSeq (cOps [⟨some 11,false,none,iMov (.t 5)⟩,
 ⟨some 12,true,none,iCmp .lss (.t 11) (.c (.int .i64 (.lit 0)))⟩])
 (cCond (.t 12) (cOps [⟨some 13,false,none,iMov (.t 5)⟩,
 ⟨some 14,false,none,iMov (.t 1)⟩,
 ⟨some 15,false,none,iArith .add (.t 13) (.t 14)⟩,
 ⟨some 5,true,none,iMov (.t 15)⟩]) cSkip))
 (cSeq (cOps [⟨some 16,false,none,iMov (.t 5)⟩,
 ⟨some 4,true,none,iMov (.t 16)⟩])
 cRet))))),[.t 4]⟩
noncomputable def Tryd.kp9:List Nat:=[0,1,2,3,4,5,12]
noncomputable def Tryd.cf9:CF:=⟨1,(cSeq (cOps [⟨some 1,true,none,iBox 27 (.t 0)⟩,
 ⟨some 2,true,none,iMov (.c .nilslice)⟩,
 ⟨some 3,true,none,iMov (.c (.int .i64 (.lit 0)))⟩])
 (cSeq (cOps [⟨some 7,false,none,iLoadN 23 (.t 1)⟩,
 ⟨some 8,false,none,iCall (.c (.func (.func 30) [] [])) [(.t 7)]⟩,
 ⟨some 6,false,none,iMov (.t 8)⟩,
 ⟨some 9,false,none,iExtract 0 (.t 6)⟩,
 ⟨some 10,false,none,iExtract 1 (.t 6)⟩,
 ⟨some 4,true,none,iAlloc 69 [(.int .i64 (.lit 0)),(.int .i64 (.lit 0)),(.int .i64 (.lit 0)),(.int .i64 (.lit 0)),(.int .i64 (.lit 0)),(.int .i64 (.lit 0)),(.int .i64 (.lit 0)),(.int .i64 (.lit 0)),(.int .i64 (.lit 0)),(.int .i64 (.lit 0)),(.int .i64 (.lit 0)),(.int .i64 (.lit 0)),(.int .i64 (.lit 0)),(.int .i64 (.lit 0)),(.int .i64 (.lit 0)),(.int .i64 (.lit 0)),(.int .i64 (.lit 0)),(.int .i64 (.lit 0)),(.int .i64 (.lit 0)),(.int .i64 (.lit 0)),(.int .i64 (.lit 0)),(.int .i64 (.lit 0)),.nilslice,(.int .i64 (.lit 0)),(.int .i64 (.lit 0)),(.int .i64 (.lit 0)),(.int .i64 (.lit 0)),(.int .i64 (.lit 0)),(.int .i64 (.lit 0)),(.int .i64 (.lit 0)),(.int .i64 (.lit 0)),(.int .i64 (.lit 0)),(.int .i64 (.lit 0)),(.int .i64 (.lit 0)),(.int .i64 (.lit 0)),(.int .i64 (.lit 0)),(.int .i64 (.lit 0)),(.int .i64 (.lit 0)),(.int .i64 (.lit 0))]⟩,
 ⟨none,false,none,iStore 39 (.t 4) (.t 9)⟩,
 ⟨some 5,true,none,iMov (.t 10)⟩])
 (cSeq (cSeq (cOps [⟨some 11,false,none,iMov (.t 5)⟩,
 ⟨some 12,true,none,iCmp .neq (.t 11) (.c (.int .i64 (.lit 0)))⟩])
 (cCond (.t 12) (cSeq (cOps [⟨some 13,false,none,iMov (.t 5)⟩,
 ⟨some 2,true,none,iMov (.c .nilslice)⟩,
 ⟨some 3,true,none,iMov (.t 13)⟩])
 cRet) cSkip))
 (cSeq (cOps [⟨some 14,false,none,iLoadN 39 (.t 4)⟩,
 ⟨some 15,false,none,iCall (.c (.func (.func 31) [] [])) [(.t 14)]⟩,
 ⟨some 16,false,none,iExtract 0 (.t 15)⟩,
 ⟨some 17,false,none,iExtract 1 (.t 15)⟩,
 ⟨some 2,true,none,iMov (.t 16)⟩,
 ⟨some 3,true,none,iMov (.t 17)⟩])
 cRet)))),[.t 2,.t 3]⟩
noncomputable def Tryd.kp10:List Nat:=[0,1,2,3,4,5,12]
noncomputable def Tryd.cf10:CF:=⟨1,(cSeq (cOps [⟨some 1,true,none,iBox 27 (.t 0)⟩,
 ⟨some 2,true,none,iMov (.c (.int .i64 (.lit 0)))⟩,
 ⟨some 3,true,none,iMov (.c (.int .i64 (.lit 0)))⟩])
 (cSeq (cOps [⟨some 7,false,none,iLoadN 23 (.t 1)⟩,
 ⟨some 8,false,none,iCall (.c (.func (.func 30) [] [])) [(.t 7)]⟩,
 ⟨some 6,false,none,iMov (.t 8)⟩,
 ⟨some 9,false,none,iExtract 0 (.t 6)⟩,
 ⟨some 10,false,none,iExtract 1 (.t 6)⟩,
 ⟨some 4,true,none,iAlloc 69 [(.int .i64 (.lit 0)),(.int .i64 (.lit 0)),(.int .i64 (.lit 0)),(.int .i64 (.lit 0)),(.int .i64 (.lit 0)),(.int .i64 (.lit 0)),(.int .i64 (.lit 0)),(.int .i64 (.lit 0)),(.int .i64 (.lit 0)),(.int .i64 (.lit 0)),(.int .i64 (.lit 0)),(.int .i64 (.lit 0)),(.int .i64 (.lit 0)),(.int .i64 (.lit 0)),(.int .i64 (.lit 0)),(.int .i64 (.lit 0)),(.int .i64 (.lit 0)),(.int .i64 (.lit 0)),(.int .i64 (.lit 0)),(.int .i64 (.lit 0)),(.int .i64 (.lit 0)),(.int .i64 (.lit 0)),.nilslice,(.int .i64 (.lit 0)),(.int .i64 (.lit 0)),(.int .i64 (.lit 0)),(.int .i64 (.lit 0)),(.int .i64 (.lit 0)),(.int .i64 (.lit 0)),(.int .i64 (.lit 0)),(.int .i64 (.lit 0)),(.int .i64 (.lit 0)),(.int .i64 (.lit 0)),(.int .i64 (.lit 0)),(.int .i64 (.lit 0)),(.int .i64 (.lit 0)),(.int .i64 (.lit 0)),(.int .i64 (.lit 0)),(.int .i64 (.lit 0))]⟩,
 ⟨none,false,none,iStore 39 (.t 4) (.t 9)⟩,
 ⟨some 5,true,none,iMov (.t 10)⟩])
 (cSeq (cSeq (cOps [⟨some 11,false,none,iMov (.t 5)⟩,
 ⟨some 12,true,none,iCmp .neq (.t 11) (.c (.int .i64 (.lit 0)))⟩])
 (cCond (.t 12) (cSeq (cOps [⟨some 13,false,none,iMov (.t 5)⟩,
 ⟨some 2,true,none,iMov (.c (.int .i64 (.lit 0)))⟩,
 ⟨some 3,true,none,iMov (.t 13)⟩])
 cRet) cSkip))
 (cSeq (cOps [⟨some 14,false,none,iFaddr 0 (.t 4)⟩,
 ⟨some 15,false,none,iFaddr 22 (.t 14)⟩,
 ⟨some 16,false,none,iLoad (.t 15)⟩,
 ⟨some 17,false,none,iLenS (.t 16)⟩,
 ⟨some 18,false,none,iLoadN 39 (.t 4)⟩,
 ⟨some 19,false,none,iFunc (.func 33) [(.t 18)] []⟩,
 ⟨some 20,false,none,iCall (.c (.func (.func 32) [] [])) [(.t 17),(.t 19)]⟩,
 ⟨some 2,true,none,iMov (.t 20)⟩,
 ⟨some 3,true,none,iMov (.c (.int .i64 (.lit 0)))⟩])
 cRet)))),[.t 2,.t 3]⟩
noncomputable def Tryd.kp11:List Nat:=[0,1,2,4,5,6,19]
noncomputable def Tryd.cf11:CF:=⟨2,(cSeq (cOps [⟨some 2,true,none,iBox 27 (.t 0)⟩,
 ⟨some 4,true,none,iMov (.c (.bool (.lit false)))⟩])
 (cSeq (cOps [⟨some 7,false,none,iMov (.t 1)⟩,
 ⟨some 8,false,none,iLenS (.t 7)⟩,
 ⟨some 9,false,none,iFaddr 22 (.t 2)⟩,
 ⟨some 10,false,none,iLoad (.t 9)⟩,
 ⟨some 11,false,none,iLenS (.t 10)⟩,
 ⟨some 12,false,none,iCmp .eql (.t 8) (.t 11)⟩,
 ⟨some 5,true,none,iMov (.t 12)⟩])
 (cSeq (cSeq (cOps [⟨some 6,true,none,iMov (.c (.int .i64 (.lit 0)))⟩])
 (cBlock 0 (cLoop (cSeq (cSeq (cOps [⟨some 13,false,none,iMov (.t 5)⟩,
 ⟨some 14,false,none,iMov (.t 13)⟩,
 ⟨some 15,false,some (14,true),iMov (.t 6)⟩,
 ⟨some 16,false,some (14,true),iMov (.t 1)⟩,
 ⟨some 17,false,some (14,true),iLenS (.t 16)⟩,
 ⟨some 18,false,some (14,true),iCmp .lss (.t 15) (.t 17)⟩,
 ⟨some 19,true,none,iPick (.t 14) (.t 18) (.c (.bool (.lit false)))⟩])
 (cCond (.t 19) cSkip (cExit 0)))
 (cSeq (cBlock 1 (dOps 0 [⟨⟨some 22,false,none,iMov (.t 1)⟩,[1],false,0,0,none,[]⟩,
 ⟨⟨some 23,false,none,iMov (.t 6)⟩,[6],false,0,0,none,[]⟩,
 ⟨⟨some 24,false,none,iIaddr 2 (.t 22) (.t 23)⟩,[22,23],false,0,0,none,[]⟩,
 ⟨⟨some 25,false,none,iFaddr 0 (.t 24)⟩,[24],false,0,0,none,[]⟩,
 ⟨⟨some 26,false,none,iLoad (.t 25)⟩,[25],false,0,0,none,[]⟩,
 ⟨⟨some 27,false,none,iFaddr 22 (.t 2)⟩,[2],false,0,0,none,[]⟩,
 ⟨⟨some 28,false,none,iLoad (.t 27)⟩,[27],false,0,0,none,[]⟩,
 ⟨⟨some 29,false,none,iMov (.t 6)⟩,[6],false,0,0,none,[]⟩,
 ⟨⟨some 30,false,none,iIaddr 4 (.t 28) (.t 29)⟩,[28,29],false,0,0,none,[]⟩,
 ⟨⟨some 31,false,none,iFaddr 3 (.t 30)⟩,[30],false,0,0,none,[]⟩,
 ⟨⟨some 32,false,none,iLoad (.t 31)⟩,[31],false,0,0,none,[]⟩,
 ⟨⟨some 33,false,none,iCall (.c (.func (.func 17) [] [])) [(.t 26),(.c (.int .i64 (.lit 0))),(.t 32)]⟩,[26,32],true,0,0,none,[]⟩,
 ⟨⟨some 34,false,none,iMov (.t 33)⟩,[33],false,1,1,none,[]⟩,
 ⟨⟨some 35,false,some (34,true),iMov (.t 1)⟩,[34,1],false,1,1,none,[]⟩,
 ⟨⟨some 36,false,some (34,true),iMov (.t 6)⟩,[34,6],false,1,1,none,[]⟩,
 ⟨⟨some 37,false,some (34,true),iIaddr 2 (.t 35) (.t 36)⟩,[34,35,36],false,1,1,none,[]⟩,
 ⟨⟨some 38,false,some (34,true),iFaddr 1 (.t 37)⟩,[34,37],false,1,1,none,[]⟩,
 ⟨⟨some 39,false,some (34,true),iLoad (.t 38)⟩,[34,38],false,1,1,none,[]⟩,
 ⟨⟨some 40,false,some (34,true),iFaddr 22 (.t 2)⟩,[34,2],false,1,1,none,[]⟩,
 ⟨⟨some 41,false,some (34,true),iLoad (.t 40)⟩,[34,40],false,1,1,none,[]⟩,
 ⟨⟨some 42,false,some (34,true),iMov (.t 6)⟩,[34,6],false,1,1,none,[]⟩,
 ⟨⟨some 43,false,some (34,true),iIaddr 4 (.t 41) (.t 42)⟩,[34,41,42],false,1,1,none,[]⟩,
 ⟨⟨some 44,false,some (34,true),iFaddr 3 (.t 43)⟩,[34,43],false,1,1,none,[]⟩,
 ⟨⟨some 45,false,some (34,true),iLoad (.t 44)⟩,[34,44],false,1,1,none,[]⟩,
 ⟨⟨some 46,false,some (34,true),iMov (.t 1)⟩,[34,1],false,1,1,none,[]⟩,
 ⟨⟨some 47,false,some (34,true),iMov (.t 6)⟩,[34,6],false,1,1,none,[]⟩,
 ⟨⟨some 48,false,some (34,true),iIaddr 2 (.t 46) (.t 47)⟩,[34,46,47],false,1,1,none,[]⟩,
 ⟨⟨some 49,false,some (34,true),iFaddr 0 (.t 48)⟩,[34,48],false,1,1,none,[]⟩,
 ⟨⟨some 50,false,some (34,true),iLoad (.t 49)⟩,[34,49],false,1,1,none,[]⟩,
 ⟨⟨some 51,false,some (34,true),iArith .sub (.t 45) (.t 50)⟩,[34,45,50],false,1,1,none,[]⟩,
 ⟨⟨some 52,false,some (34,true),iCall (.c (.func (.func 17) [] [])) [(.t 39),(.c (.int .i64 (.lit 0))),(.t 51)]⟩,[34,39,51],true,1,0,none,[]⟩,
 ⟨⟨some 53,false,none,iPick (.t 34) (.t 52) (.c (.bool (.lit false)))⟩,[34,52],false,2,2,none,[]⟩,
 ⟨⟨some 5,true,none,iMov (.t 53)⟩,[53],false,2,2,none,[]⟩]))
 (cOps [⟨some 20,false,none,iMov (.t 6)⟩,
 ⟨some 21,false,none,iArith .add (.t 20) (.c (.int .i64 (.lit 1)))⟩,
 ⟨some 6,true,none,iMov (.t 21)⟩]))))))
 (cSeq (cOps [⟨some 54,false,none,iMov (.t 5)⟩,
 ⟨some 4,true,none,iMov (.t 54)⟩])
 cRet)))),[.t 4]⟩
noncomputable def Tryd.kp12:List Nat:=[0,2,3,4,8]
noncomputable def Tryd.cf12:CF:=⟨1,(cSeq (cOps [⟨some 2,true,none,iMov (.c (.int .i64 (.lit 0)))⟩])
 (cSeq (cOps [⟨some 3,true,none,iMov (.c (.int .i64 (.lit 0)))⟩])
 (cSeq (cSeq (cOps [⟨some 4,true,none,iMov (.c (.int .i64 (.lit 0)))⟩])
 (cBlock 0 (cLoop (cSeq (cSeq (cOps [⟨some 5,false,none,iMov (.t 4)⟩,
 ⟨some 6,false,none,iMov (.t 0)⟩,
 ⟨some 7,false,none,iLenS (.t 6)⟩,
 ⟨some 8,true,none,iCmp .lss (.t 5) (.t 7)⟩])
 (cCond (.t 8) cSkip (cExit 0)))
 (cSeq (cBlock 1 (dOps 0 [⟨⟨some 11,false,none,iMov (.t 3)⟩,[3],false,0,0,none,[]⟩,
 ⟨⟨some 12,false,none,iMov (.t 0)⟩,[0],false,0,0,none,[]⟩,
 ⟨⟨some 13,false,none,iMov (.t 4)⟩,[4],false,0,0,none,[]⟩,
 ⟨⟨some 14,false,none,iIaddr 2 (.t 12) (.t 13)⟩,[12,13],false,0,0,none,[]⟩,
 ⟨⟨some 15,false,none,iFaddr 0 (.t 14)⟩,[14],false,0,0,none,[]⟩,
 ⟨⟨some 16,false,none,iLoad (.t 15)⟩,[15],false,0,0,none,[]⟩,
 ⟨⟨some 17,false,none,iMov (.t 0)⟩,[0],false,0,0,none,[]⟩,
 ⟨⟨some 18,false,none,iMov (.t 4)⟩,[4],false,0,0,none,[]⟩,
 ⟨⟨some 19,false,none,iIaddr 2 (.t 17) (.t 18)⟩,[17,18],false,0,0,none,[]⟩,
 ⟨⟨some 20,false,none,iFaddr 1 (.t 19)⟩,[19],false,0,0,none,[]⟩,
 ⟨⟨some 21,false,none,iLoad (.t 20)⟩,[20],false,0,0,none,[]⟩,
 ⟨⟨some 22,false,none,iArith .add (.t 16) (.t 21)⟩,[16,21],false,0,0,none,[]⟩,
 ⟨⟨some 23,false,none,iArith .add (.t 11) (.t 22)⟩,[11,22],false,0,0,none,[]⟩,
 ⟨⟨some 3,true,none,iMov (.t 23)⟩,[23],false,0,0,none,[]⟩]))
 (cOps [⟨some 9,false,none,iMov (.t 4)⟩,
 ⟨some 10,false,none,iArith .add (.t 9) (.c (.int .i64 (.lit 1)))⟩,
 ⟨some 4,true,none,iMov (.t 10)⟩]))))))
 (cSeq (cOps [⟨some 24,false,none,iMov (.t 3)⟩,
 ⟨some 2,true,none,iMov (.t 24)⟩])
 cRet)))),[.t 2]⟩
noncomputable def Tryd.kp16:List Nat:=[0,1,2,4,5,6,7,14,19]
noncomputable def Tryd.cf16:CF:=⟨2,(cSeq (cOps [⟨some 2,true,none,iBox 27 (.t 0)⟩,
 ⟨some 4,true,none,iMov (.c (.int .i64 (.lit 0)))⟩,
 ⟨some 5,true,none,iMov (.c (.int .i64 (.lit 0)))⟩])
 (cSeq (cOps [⟨some 9,false,none,iLoadN 23 (.t 2)⟩,
 ⟨some 10,false,none,iCall (.c (.func (.func 30) [] [])) [(.t 9)]⟩,
 ⟨some 8,false,none,iMov (.t 10)⟩,
 ⟨some 11,false,none,iExtract 0 (.t 8)⟩,
 ⟨some 12,false,none,iExtract 1 (.t 8)⟩,
 ⟨some 6,true,none,iAlloc 69 [(.int .i64 (.lit 0)),(.int .i64 (.lit 0)),(.int .i64 (.lit 0)),(.int .i64 (.lit 0)),(.int .i64 (.lit 0)),(.int .i64 (.lit 0)),(.int .i64 (.lit 0)),(.int .i64 (.lit 0)),(.int .i64 (.lit 0)),(.int .i64 (.lit 0)),(.int .i64 (.lit 0)),(.int .i64 (.lit 0)),(.int .i64 (.lit 0)),(.int .i64 (.lit 0)),(.int .i64 (.lit 0)),(.int .i64 (.lit 0)),(.int .i64 (.lit 0)),(.int .i64 (.lit 0)),(.int .i64 (.lit 0)),(.int .i64 (.lit 0)),(.int .i64 (.lit 0)),(.int .i64 (.lit 0)),.nilslice,(.int .i64 (.lit 0)),(.int .i64 (.lit 0)),(.int .i64 (.lit 0)),(.int .i64 (.lit 0)),(.int .i64 (.lit 0)),(.int .i64 (.lit 0)),(.int .i64 (.lit 0)),(.int .i64 (.lit 0)),(.int .i64 (.lit 0)),(.int .i64 (.lit 0)),(.int .i64 (.lit 0)),(.int .i64 (.lit 0)),(.int .i64 (.lit 0)),(.int .i64 (.lit 0)),(.int .i64 (.lit 0)),(.int .i64 (.lit 0))]⟩,
 ⟨none,false,none,iStore 39 (.t 6) (.t 11)⟩,
 ⟨some 7,true,none,iMov (.t 12)⟩])
 (cSeq (cSeq (cOps [⟨some 13,false,none,iMov (.t 7)⟩,
 ⟨some 14,true,none,iCmp .neq (.t 13) (.c (.int .i64 (.lit 0)))⟩])
 (cCond (.t 14) (cSeq (cOps [⟨some 15,false,none,iMov (.t 7)⟩,
 ⟨some 4,true,none,iMov (.c (.int .i64 (.lit 0)))⟩,
 ⟨some 5,true,none,iMov (.t 15)⟩])
 cRet) cSkip))
 (cSeq (cSeq (cOps [⟨some 16,false,none,iLoadN 39 (.t 6)⟩,
 ⟨some 17,false,none,iMov (.t 1)⟩,
 ⟨some 18,false,none,iCall (.c (.func (.func 37) [] [])) [(.t 16),(.t 17)]⟩,
 ⟨some 19,true,none,iNot (.t 18)⟩])
 (cCond (.t 19) (cSeq (cOps [⟨some 4,true,none,iMov (.c (.int .i64 (.lit 0)))⟩,
 ⟨some 5,true,none,iMov (.c (.int .i64 (.lit 41)))⟩])
 cRet) cSkip))
 (cSeq (cOps [⟨some 20,false,none,iLoadN 39 (.t 6)⟩,
 ⟨some 21,false,none,iMov (.t 1)⟩,
 ⟨some 22,false,none,iCall (.c (.func (.func 38) [] [])) [(.t 20),(.t 21)]⟩,
 ⟨some 23,false,none,iExtract 0 (.t 22)⟩,
 ⟨some 24,false,none,iExtract 1 (.t 22)⟩,
 ⟨some 4,true,none,iMov (.t 23)⟩,
 ⟨some 5,true,none,iMov (.t 24)⟩])
 cRet))))),[.t 4,.t 5]⟩
noncomputable def Tryd.kp17:List Nat:=[0,1,2,6]
noncomputable def Tryd.cf17:CF:=⟨3,(cSeq (cOps [⟨some 6,true,none,iMov (.c (.bool (.lit false)))⟩])
 (cSeq (cOps [⟨some 7,false,none,iMov (.t 0)⟩,
 ⟨some 8,false,none,iMov (.t 1)⟩,
 ⟨some 9,false,none,iCmp .geq (.t 7) (.t 8)⟩,
 ⟨some 10,false,none,iMov (.t 9)⟩,
 ⟨some 11,false,some (10,true),iMov (.t 0)⟩,
 ⟨some 12,false,some (10,true),iMov (.t 2)⟩,
 ⟨some 13,false,some (10,true),iCmp .leq (.t 11) (.t 12)⟩,
 ⟨some 14,false,none,iPick (.t 10) (.t 13) (.c (.bool (.lit false)))⟩,
 ⟨some 6,true,none,iMov (.t 14)⟩])
 cRet)),[.t 6]⟩
noncomputable def Tryd.kp19:List Nat:=[0,1,2,3,6,7,8,9,16,29]
noncomputable def Tryd.cf19:CF:=⟨3,(cSeq (cOps [⟨some 3,true,none,iBox 27 (.t 0)⟩,
 ⟨some 6,true,none,iAlloc 23 [(.int .i64 (.lit 0)),(.int .i64 (.lit 0))]⟩,
 ⟨some 7,true,none,iAlloc 23 [(.int .i64 (.lit 0)),(.int .i64 (.lit 0))]⟩,
 ⟨some 8,true,none,iMov (.c (.int .i64 (.lit 0)))⟩])
 (cSeq (cOps [⟨some 11,false,none,iLoadN 23 (.t 3)⟩,
 ⟨some 12,false,none,iCall (.c (.func (.func 30) [] [])) [(.t 11)]⟩,
 ⟨some 10,false,none,iMov (.t 12)⟩,
 ⟨some 13,false,none,iExtract 0 (.t 10)⟩,
 ⟨some 14,false,none,iExtract 1 (.t 10)⟩,
 ⟨some 9,true,none,iAlloc 69 [(.int .i64 (.lit 0)),(.int .i64 (.lit 0)),(.int .i64 (.lit 0)),(.int .i64 (.lit 0)),(.int .i64 (.lit 0)),(.int .i64 (.lit 0)),(.int .i64 (.lit 0)),(.int .i64 (.lit 0)),(.int .i64 (.lit 0)),(.int .i64 (.lit 0)),(.int .i64 (.lit 0)),(.int .i64 (.lit 0)),(.int .i64 (.lit 0)),(.int .i64 (.lit 0)),(.int .i64 (.lit 0)),(.int .i64 (.lit 0)),(.int .i64 (.lit 0)),(.int .i64 (.lit 0)),(.int .i64 (.lit 0)),(.int .i64 (.lit 0)),(.int .i64 (.lit 0)),(.int .i64 (.lit 0)),.nilslice,(.int .i64 (.lit 0)),(.int .i64 (.lit 0)),(.int .i64 (.lit 0)),(.int .i64 (.lit 0)),(.int .i64 (.lit 0)),(.int .i64 (.lit 0)),(.int .i64 (.lit 0)),(.int .i64 (.lit 0)),(.int .i64 (.lit 0)),(.int .i64 (.lit 0)),(.int .i64 (.lit 0)),(.int .i64 (.lit 0)),(.int .i64 (.lit 0)),(.int .i64 (.lit 0)),(.int .i64 (.lit 0)),(.int .i64 (.lit 0))]⟩,
 ⟨none,false,none,iStore 39 (.t 9) (.t 13)⟩,
 ⟨some 8,true,none,iMov (.t 14)⟩])
 (cSeq (cSeq (cOps [⟨some 15,false,none,iMov (.t 8)⟩,
 ⟨some 16,true,none,iCmp .neq (.t 15) (.c (.int .i64 (.lit 0)))⟩])
 (cCond (.t 16) (cSeq (cOps [⟨some 17,false,none,iBuild [(.int .i64 (.lit 0)),(.int .i64 (.lit 0))] []⟩,
 ⟨some 18,false,none,iBuild [(.int .i64 (.lit 0)),(.int .i64 (.lit 0))] []⟩,
 ⟨some 19,false,none,iMov (.t 8)⟩,
 ⟨none,false,none,iStore 2 (.t 6) (.t 17)⟩,
 ⟨none,false,none,iStore 2 (.t 7) (.t 18)⟩,
 ⟨some 8,true,none,iMov (.t 19)⟩])
 cRet) cSkip))
 (cSeq (cSeq (cOps [⟨some 20,false,none,iLoadN 39 (.t 9)⟩,
 ⟨some 21,false,none,iMov (.t 1)⟩,
 ⟨some 22,false,none,iCall (.c (.func (.func 37) [] [])) [(.t 20),(.t 21)]⟩,
 ⟨some 23,false,none,iNot (.t 22)⟩,
 ⟨some 24,false,none,iMov (.t 23)⟩,
 ⟨some 25,false,some (24,false),iLoadN 39 (.t 9)⟩,
 ⟨some 26,false,some (24,false),iMov (.t 2)⟩,
 ⟨some 27,false,some (24,false),iCall (.c (.func (.func 40) [] [])) [(.t 25),(.t 26)]⟩,
 ⟨some 28,false,some (24,false),iNot (.t 27)⟩,
 ⟨some 29,true,none,iPick (.t 24) (.c (.bool (.lit true))) (.t 28)⟩])
 (cCond (.t 29) (cSeq (cOps [⟨some 30,false,none,iBuild [(.int .i64 (.lit 0)),(.int .i64 (.lit 0))] []⟩,
 ⟨some 31,false,none,iBuild [(.int .i64 (.lit 0)),(.int .i64 (.lit 0))] []⟩,
 ⟨none,false,none,iStore 2 (.t 6) (.t 30)⟩,
 ⟨none,false,none,iStore 2 (.t 7) (.t 31)⟩,
 ⟨some 8,true,none,iMov (.c (.int .i64 (.lit 41)))⟩])
 cRet) cSkip))
 (cSeq (dOps 0 [⟨⟨some 32,false,none,iLoadN 39 (.t 9)⟩,[9],false,0,0,none,[]⟩,
 ⟨⟨some 33,false,none,iMov (.t 1)⟩,[1],false,0,0,none,[]⟩,
 ⟨⟨some 34,false,none,iMov (.t 2)⟩,[2],false,0,0,none,[]⟩,
 ⟨⟨some 35,false,none,iArith .add (.t 34) (.c (.int .i64 (.lit 1)))⟩,[34],false,0,0,none,[]⟩,
 ⟨⟨some 36,false,none,iMov (.t 2)⟩,[2],false,0,0,none,[]⟩,
 ⟨⟨some 37,false,none,iArith .add (.t 36) (.c (.int .i64 (.lit 1)))⟩,[36],false,0,0,none,[]⟩,
 ⟨⟨some 38,false,none,iSlice 2 (.t 33) none (some (.t 35)) (some (.t 37))⟩,[33,35,37],false,0,0,none,[]⟩,
 ⟨⟨some 39,false,none,iCall (.c (.func (.func 41) [] [])) [(.t 32),(.t 38)]⟩,[32,38],true,0,0,none,[]⟩,
 ⟨⟨some 40,false,none,iExtract 0 (.t 39)⟩,[39],false,1,1,none,[]⟩,
 ⟨⟨some 41,false,none,iExtract 1 (.t 39)⟩,[39],false,1,1,none,[]⟩,
 ⟨⟨some 42,false,none,iExtract 2 (.t 39)⟩,[39],false,1,1,none,[]⟩,
 ⟨⟨none,false,none,iStore 2 (.t 6) (.t 40)⟩,[6,40],true,1,0,none,[]⟩,
 ⟨⟨none,false,none,iStore 2 (.t 7) (.t 41)⟩,[7,41],true,2,0,none,[]⟩,
 ⟨⟨some 8,true,none,iMov (.t 42)⟩,[42],false,3,3,none,[]⟩])
 cRet))))),[.cell 6 true 2,.cell 7 true 2,.t 8]⟩
noncomputable def Tryd.kp20:List Nat:=[0,1,4]
noncomputable def Tryd.cf20:CF:=⟨2,(cSeq (cOps [⟨some 4,true,none,iAlloc 23 [(.int .i64 (.lit 0)),(.int .i64 (.lit 0))]⟩])
 (cSeq (cOps [⟨some 5,false,none,iMov (.t 0)⟩,
 ⟨some 6,false,none,iMov (.t 1)⟩,
 ⟨some 7,false,none,iBuild [(.int .i64 (.lit 0)),(.int .i64 (.lit 0))] [(0,1,(.t 5)),(1,1,(.t 6))]⟩,
 ⟨none,false,none,iStore 2 (.t 4) (.t 7)⟩])
 cRet)),[.cell 4 true 2]⟩
noncomputable def Tryd.kp21:List Nat:=[0,1,4,5,6,18]
noncomputable def Tryd.cf21:CF:=⟨2,(cSeq (cOps [⟨some 4,true,none,iMov (.c (.bool (.lit false)))⟩])
 (cSeq (cOps [⟨some 7,false,none,iMov (.t 0)⟩,
 ⟨some 8,false,none,iLenS (.t 7)⟩,
 ⟨some 9,false,none,iMov (.t 1)⟩,
 ⟨some 10,false,none,iLenS (.t 9)⟩,
 ⟨some 11,false,none,iCmp .eql (.t 8) (.t 10)⟩,
 ⟨some 5,true,none,iMov (.t 11)⟩])
 (cSeq (cSeq (cOps [⟨some 6,true,none,iMov (.c (.int .i64 (.lit 0)))⟩])
 (cBlock 0 (cLoop (cSeq (cSeq (cOps [⟨some 12,false,none,iMov (.t 5)⟩,
 ⟨some 13,false,none,iMov (.t 12)⟩,
 ⟨some 14,false,some (13,true),iMov (.t 6)⟩,
 ⟨some 15,false,some (13,true),iMov (.t 0)⟩,
 ⟨some 16,false,some (13,true),iLenS (.t 15)⟩,
 ⟨some 17,false,some (13,true),iCmp .lss (.t 14) (.t 16)⟩,
 ⟨some 18,true,none,iPick (.t 13) (.t 17) (.c (.bool (.lit false)))⟩])
 (cCond (.t 18) cSkip (cExit 0)))
 (cSeq (cBlock 1 (dOps 0 [⟨⟨some 21,false,none,iMov (.t 0)⟩,[0],false,0,0,none,[]⟩,
 ⟨⟨some 22,false,none,iMov (.t 6)⟩,[6],false,0,0,none,[]⟩,
 ⟨⟨some 23,false,none,iIaddr 2 (.t 21) (.t 22)⟩,[21,22],false,0,0,none,[]⟩,
 ⟨⟨some 24,false,none,iLoadN 2 (.t 23)⟩,[23],false,0,0,none,[]⟩,
 ⟨⟨some 25,false,none,iMov (.t 1)⟩,[1],false,0,0,none,[]⟩,
 ⟨⟨some 26,false,none,iMov (.t 6)⟩,[6],false,0,0,none,[]⟩,
 ⟨⟨some 27,false,none,iIaddr 2 (.t 25) (.t 26)⟩,[25,26],false,0,0,none,[]⟩,
 ⟨⟨some 28,false,none,iLoadN 2 (.t 27)⟩,[27],false,0,0,none,[]⟩,
 ⟨⟨some 29,false,none,iEq false true 2 [(0,.int),(1,.int)] (.t 24) (.t 28)⟩,[24,28],false,0,0,none,[]⟩,
 ⟨⟨some 5,true,none,iMov (.t 29)⟩,[29],false,0,0,none,[]⟩]))
 (cOps [⟨some 19,false,none,iMov (.t 6)⟩,
 ⟨some 20,false,none,iArith .add (.t 19) (.c (.int .i64 (.lit 1)))⟩,
 ⟨some 6,true,none,iMov (.t 20)⟩]))))))
 (cSeq (cOps [⟨some 30,false,none,iMov (.t 5)⟩,
 ⟨some 4,true,none,iMov (.t 30)⟩])
 cRet)))),[.t 4]⟩
noncomputable def Tryd.kp22:List Nat:=[0,1,2,5]
noncomputable def Tryd.cf22:CF:=⟨1,(cSeq (cOps [⟨some 1,true,none,iBox 27 (.t 0)⟩,
 ⟨some 2,true,none,iMov (.c (.int .i64 (.lit 0)))⟩])
 (cSeq (cSeq (cOps [⟨some 3,false,none,iLoadN 23 (.t 1)⟩,
 ⟨some 4,false,none,iCall (.c (.func (.func 42) [] [])) [(.t 3)]⟩,
 ⟨some 5,true,none,iNot (.t 4)⟩])
 (cCond (.t 5) (cSeq (cOps [⟨some 2,true,none,iMov (.c (.int .i64 (.lit 40)))⟩])
 cRet) cSkip))
 (cSeq (cOps [⟨some 2,true,none,iMov (.c (.int .i64 (.lit 0)))⟩])
 cRet))),[.t 2]⟩
noncomputable def Tryd.kp23:List Nat:=[0,1,2,3,6]
noncomputable def Tryd.cf23:CF:=⟨3,(cSeq (cOps [⟨some 3,true,none,iBox 23 (.t 0)⟩,
 ⟨some 6,true,none,iMov (.c (.bool (.lit false)))⟩])
 (cSeq (cOps [⟨some 7,false,none,iMov (.t 1)⟩,
 ⟨some 8,false,none,iFaddr 0 (.t 3)⟩,
 ⟨some 9,false,none,iLoad (.t 8)⟩,
 ⟨some 10,false,none,iCmp .leq (.t 7) (.t 9)⟩,
 ⟨some 11,false,none,iMov (.t 10)⟩,
 ⟨some 12,false,some (11,true),iFaddr 0 (.t 3)⟩,
 ⟨some 13,false,some (11,true),iLoad (.t 12)⟩,
 ⟨some 14,false,some (11,true),iFaddr 1 (.t 3)⟩,
 ⟨some 15,false,some (11,true),iLoad (.t 14)⟩,
 ⟨some 16,false,some (11,true),iCmp .leq (.t 13) (.t 15)⟩,
 ⟨some 17,false,none,iPick (.t 11) (.t 16) (.c (.bool (.lit false)))⟩,
 ⟨some 18,false,none,iMov (.t 17)⟩,
 ⟨some 19,false,some (18,true),iFaddr 1 (.t 3)⟩,
 ⟨some 20,false,some (18,true),iLoad (.t 19)⟩,
 ⟨some 21,false,some (18,true),iMov (.t 2)⟩,
 ⟨some 22,false,some (18,true),iCmp .leq (.t 20) (.t 21)⟩,
 ⟨some 23,false,none,iPick (.t 18) (.t 22) (.c (.bool (.lit false)))⟩,
 ⟨some 6,true,none,iMov (.t 23)⟩])
 cRet)),[.t 6]⟩
noncomputable def Tryd.kp24:List Nat:=[0,1,2,4,5,6,7,14,23]
noncomputable def Tryd.cf24:CF:=⟨2,(cSeq (cOps [⟨some 2,true,none,iBox 27 (.t 0)⟩,
 ⟨some 4,true,none,iAlloc 23 [(.int .i64 (.lit 0)),(.int .i64 (.lit 0))]⟩,
 ⟨some 5,true,none,iMov (.c (.int .i64 (.lit 0)))⟩])
 (cSeq (cOps [⟨some 9,false,none,iLoadN 23 (.t 2)⟩,
 ⟨some 10,false,none,iCall (.c (.func (.func 30) [] [])) [(.t 9)]⟩,
 ⟨some 8,false,none,iMov (.t 10)⟩,
 ⟨some 11,false,none,iExtract 0 (.t 8)⟩,
 ⟨some 12,false,none,iExtract 1 (.t 8)⟩,
 ⟨some 6,true,none,iAlloc 69 [(.int .i64 (.lit 0)),(.int .i64 (.lit 0)),(.int .i64 (.lit 0)),(.int .i64 (.lit 0)),(.int .i64 (.lit 0)),(.int .i64 (.lit 0)),(.int .i64 (.lit 0)),(.int .i64 (.lit 0)),(.int .i64 (.lit 0)),(.int .i64 (.lit 0)),(.int .i64 (.lit 0)),(.int .i64 (.lit 0)),(.int .i64 (.lit 0)),(.int .i64 (.lit 0)),(.int .i64 (.lit 0)),(.int .i64 (.lit 0)),(.int .i64 (.lit 0)),(.int .i64 (.lit 0)),(.int .i64 (.lit 0)),(.int .i64 (.lit 0)),(.int .i64 (.lit 0)),(.int .i64 (.lit 0)),.nilslice,(.int .i64 (.lit 0)),(.int .i64 (.lit 0)),(.int .i64 (.lit 0)),(.int .i64 (.lit 0)),(.int .i64 (.lit 0)),(.int .i64 (.lit 0)),(.int .i64 (.lit 0)),(.int .i64 (.lit 0)),(.int .i64 (.lit 0)),(.int .i64 (.lit 0)),(.int .i64 (.lit 0)),(.int .i64 (.lit 0)),(.int .i64 (.lit 0)),(.int .i64 (.lit 0)),(.int .i64 (.lit 0)),(.int .i64 (.lit 0))]⟩,
 ⟨none,false,none,iStore 39 (.t 6) (.t 11)⟩,
 ⟨some 7,true,none,iMov (.t 12)⟩])
 (cSeq (cSeq (cOps [⟨some 13,false,none,iMov (.t 7)⟩,
 ⟨some 14,true,none,iCmp .neq (.t 13) (.c (.int .i64 (.lit 0)))⟩])
 (cCond (.t 14) (cSeq (cOps [⟨some 15,false,none,iBuild [(.int .i64 (.lit 0)),(.int .i64 (.lit 0))] []⟩,
 ⟨some 16,false,none,iMov (.t 7)⟩,
 ⟨none,false,none,iStore 2 (.t 4) (.t 15)⟩,
 ⟨some 5,true,none,iMov (.t 16)⟩])
 cRet) cSkip))
 (cSeq (cSeq (cOps [⟨some 17,false,none,iMov (.t 1)⟩,
 ⟨some 18,false,none,iFaddr 0 (.t 6)⟩,
 ⟨some 19,false,none,iFaddr 5 (.t 18)⟩,
 ⟨some 20,false,none,iLoad (.t 19)⟩,
 ⟨some 21,false,none,iBuild [(.int .i64 (.lit 0)),(.int .i64 (.lit 0))] [(0,1,(.c (.int .i64 (.lit 0)))),(1,1,(.t 20))]⟩,
 ⟨some 22,false,none,iCall (.c (.func (.func 43) [] [])) [(.t 17),(.t 21)]⟩,
 ⟨some 23,true,none,iNot (.t 22)⟩])
 (cCond (.t 23) (cSeq (cOps [⟨some 24,false,none,iBuild [(.int .i64 (.lit 0)),(.int .i64 (.lit 0))] []⟩,
 ⟨none,false,none,iStore 2 (.t 4) (.t 24)⟩,
 ⟨some 5,true,none,iMov (.c (.int .i64 (.lit 41)))⟩])
 cRet) cSkip))
 (cSeq (cOps [⟨some 25,false,none,iLoadN 39 (.t 6)⟩,
 ⟨some 26,false,none,iMov (.t 1)⟩,
 ⟨some 27,false,none,iCall (.c (.func (.func 44) [] [])) [(.t 25),(.t 26)]⟩,
 ⟨none,false,none,iStore 2 (.t 4) (.t 27)⟩,
 ⟨some 5,true,none,iMov (.c (.int .i64 (.lit 0)))⟩])
 cRet))))),[.cell 4 true 2,.t 5]⟩
noncomputable def Tryd.kp25:List Nat:=[0]
noncomputable def Tryd.cf25:CF:=⟨0,(cSeq (cOps [⟨some 0,true,none,iAlloc 27 [(.int .i64 (.lit 0)),(.int .i64 (.lit 0)),(.int .i64 (.lit 0)),(.int .i64 (.lit 0)),(.int .i64 (.lit 0)),(.int .i64 (.lit 0)),(.int .i64 (.lit 0)),(.int .i64 (.lit 0)),(.int .i64 (.lit 0)),(.int .i64 (.lit 0)),(.int .i64 (.lit 0)),(.int .i64 (.lit 0)),(.int .i64 (.lit 0)),(.int .i64 (.lit 0)),(.int .i64 (.lit 0)),(.int .i64 (.lit 0)),(.int .i64 (.lit 0)),(.int .i64 (.lit 0)),(.int .i64 (.lit 0)),(.int .i64 (.lit 0)),(.int .i64 (.lit 0)),(.int .i64 (.lit 0)),.nilslice]⟩])
 (cSeq (cOps [⟨some 1,false,none,iCall (.c (.func (.func 20) [] [])) [(.c (.int .i64 (.lit 20))),(.c (.int .i64 (.lit 24)))]⟩,
 ⟨some 2,false,none,iCall (.c (.func (.func 20) [] [])) [(.c (.int .i64 (.lit 30))),(.c (.int .i64 (.lit 30)))]⟩,
 ⟨some 3,false,none,iCall (.c (.func (.func 20) [] [])) [(.c (.int .i64 (.lit 0))),(.c (.int .i64 (.lit 1)))]⟩,
 ⟨some 4,false,none,iCall (.c (.func (.func 20) [] [])) [(.c (.int .i64 (.lit 1))),(.c (.int .i64 (.lit 2)))]⟩,
 ⟨some 5,false,none,iBuild [(.int .i64 (.lit 0)),(.int .i64 (.lit 0)),(.int .i64 (.lit 0)),(.int .i64 (.lit 0))] [(0,2,(.t 3)),(2,2,(.t 4))]⟩,
 ⟨some 6,false,none,iCall (.c (.func (.func 20) [] [])) [(.c (.int .i64 (.lit 0))),(.c (.int .i64 (.lit 1)))]⟩,
 ⟨some 7,false,none,iCall (.c (.func (.func 20) [] [])) [(.c (.int .i64 (.lit 1))),(.c (.int .i64 (.lit 1)))]⟩,
 ⟨some 8,false,none,iBuild [(.int .i64 (.lit 0)),(.int .i64 (.lit 0)),(.int .i64 (.lit 0)),(.int .i64 (.lit 0))] [(0,2,(.t 6)),(2,2,(.t 7))]⟩,
 ⟨some 9,false,none,iCall (.c (.func (.func 20) [] [])) [(.c (.int .i64 (.lit 20))),(.c (.int .i64 (.lit 24)))]⟩,
 ⟨some 10,false,none,iCall (.c (.func (.func 20) [] [])) [(.c (.int .i64 (.lit 12))),(.c (.int .i64 (.lit 16)))]⟩,
 ⟨some 11,false,none,iCall (.c (.func (.func 45) [] [])) [(.c (.int .i64 (.lit 5))),(.c (.int .i64 (.lit 6))),(.c (.bool (.lit false))),(.c (.int .i64 (.lit 0)))]⟩,
 ⟨some 12,false,none,iCall (.c (.func (.func 45) [] [])) [(.c (.int .i64 (.lit 10))),(.c (.int .i64 (.lit 12))),(.c (.bool (.lit true))),(.c (.int .i64 (.lit 2)))]⟩,
 ⟨some 13,false,none,iCall (.c (.func (.func 45) [] [])) [(.c (.int .i64 (.lit 3))),(.c (.int .i64 (.lit 4))),(.c (.bool (.lit false))),(.c (.int .i64 (.lit 1)))]⟩,
 ⟨some 14,false,none,iCall (.c (.func (.func 45) [] [])) [(.c (.int .i64 (.lit 8))),(.c (.int .i64 (.lit 8))),(.c (.bool (.lit true))),(.c (.int .i64 (.lit 5)))]⟩,
 ⟨some 15,false,none,iBslice 33 [(.int .i64 (.lit 0)),(.int .i64 (.lit 0)),(.bool (.lit false)),(.int .i64 (.lit 0))] 4 [(0,4,(.t 11)),(4,4,(.t 12)),(8,4,(.t 13)),(12,4,(.t 14))]⟩,
 ⟨some 16,false,none,iBuild [(.int .i64 (.lit 0)),(.int .i64 (.lit 0)),(.int .i64 (.lit 0)),(.int .i64 (.lit 0)),(.int .i64 (.lit 0)),(.int .i64 (.lit 0)),(.int .i64 (.lit 0)),(.int .i64 (.lit 0)),(.int .i64 (.lit 0)),(.int .i64 (.lit 0)),(.int .i64 (.lit 0)),(.int .i64 (.lit 0)),(.int .i64 (.lit 0)),(.int .i64 (.lit 0)),(.int .i64 (.lit 0)),(.int .i64 (.lit 0)),(.int .i64 (.lit 0)),(.int .i64 (.lit 0)),(.int .i64 (.lit 0)),(.int .i64 (.lit 0)),(.int .i64 (.lit 0)),(.int .i64 (.lit 0)),.nilslice] [(0,2,(.t 1)),(2,2,(.t 2)),(4,1,(.c (.int .i64 (.lit 40)))),(5,1,(.c (.int .i64 (.lit 40)))),(6,1,(.c (.int .i64 (.lit 6)))),(7,1,(.c (.int .i64 (.lit 10)))),(8,4,(.t 5)),(12,4,(.t 8)),(16,2,(.t 9)),(18,2,(.t 10)),(20,1,(.c (.int .i64 (.lit 10)))),(21,1,(.c (.int .i64 (.lit 18)))),(22,1,(.t 15))]⟩,
 ⟨none,false,none,iStore 23 (.t 0) (.t 16)⟩])
 cRet)),[.cell 0 true 23]⟩
noncomputable def Tryd.kp26:List Nat:=[0]
noncomputable def Tryd.cf26:CF:=⟨0,(cSeq (cOps [⟨some 0,true,none,iMov (.c .nilslice)⟩])
 (cSeq (cOps [⟨some 1,false,none,iBuild [(.int .i64 (.lit 0)),(.int .i64 (.lit 0))] []⟩,
 ⟨some 2,false,none,iBuild [(.int .i64 (.lit 0)),(.int .i64 (.lit 0))] [(0,1,(.c (.int .i64 (.lit 2))))]⟩,
 ⟨some 3,false,none,iBuild [(.int .i64 (.lit 0)),(.int .i64 (.lit 0))] [(0,1,(.c (.int .i64 (.lit 1))))]⟩,
 ⟨some 4,false,none,iBuild [(.int .i64 (.lit 0)),(.int .i64 (.lit 0))] [(0,1,(.c (.int .i64 (.lit 2)))),(1,1,(.c (.int .i64 (.lit 1))))]⟩,
 ⟨some 5,false,none,iBslice 76 [(.int .i64 (.lit 0)),(.int .i64 (.lit 0))] 4 [(0,2,(.t 1)),(2,2,(.t 2)),(4,2,(.t 3)),(6,2,(.t 4))]⟩,
 ⟨some 0,true,none,iMov (.t 5)⟩])
 cRet)),[.t 0]⟩
noncomputable def Tryd.kp27:List Nat:=[0]
noncomputable def Tryd.cf27:CF:=⟨0,(cSeq (cOps [⟨some 0,true,none,iMov (.c .nilslice)⟩])
 (cSeq (cOps [⟨some 1,false,none,iBuild [(.int .i64 (.lit 0)),(.int .i64 (.lit 0))] []⟩,
 ⟨some 2,false,none,iBuild [(.int .i64 (.lit 0)),(.int .i64 (.lit 0))] [(0,1,(.c (.int .i64 (.lit 1))))]⟩,
 ⟨some 3,false,none,iBuild [(.int .i64 (.lit 0)),(.int .i64 (.lit 0))] [(0,1,(.c (.int .i64 (.lit 1))))]⟩,
 ⟨some 4,false,none,iBuild [(.int .i64 (.lit 0)),(.int .i64 (.lit 0))] [(0,1,(.c (.int .i64 (.lit 2)))),(1,1,(.c (.int .i64 (.lit 1))))]⟩,
 ⟨some 5,false,none,iBslice 76 [(.int .i64 (.lit 0)),(.int .i64 (.lit 0))] 4 [(0,2,(.t 1)),(2,2,(.t 2)),(4,2,(.t 3)),(6,2,(.t 4))]⟩,
 ⟨some 0,true,none,iMov (.t 5)⟩])
 cRet)),[.t 0]⟩
noncomputable def Tryd.kp28:List Nat:=[0,1,2,4,5,6,7,8,15,20,27]
noncomputable def Tryd.cf28:CF:=⟨2,(cSeq (cOps [⟨some 2,true,none,iBox 27 (.t 0)⟩,
 ⟨some 4,true,none,iMov (.c (.int .i64 (.lit 0)))⟩,
 ⟨some 5,true,none,iMov (.c (.int .i64 (.lit 0)))⟩])
 (cSeq (cOps [⟨some 10,false,none,iLoadN 23 (.t 2)⟩,
 ⟨some 11,false,none,iCall (.c (.func (.func 30) [] [])) [(.t 10)]⟩,
 ⟨some 9,false,none,iMov (.t 11)⟩,
 ⟨some 12,false,none,iExtract 0 (.t 9)⟩,
 ⟨some 13,false,none,iExtract 1 (.t 9)⟩,
 ⟨some 6,true,none,iAlloc 69 [(.int .i64 (.lit 0)),(.int .i64 (.lit 0)),(.int .i64 (.lit 0)),(.int .i64 (.lit 0)),(.int .i64 (.lit 0)),(.int .i64 (.lit 0)),(.int .i64 (.lit 0)),(.int .i64 (.lit 0)),(.int .i64 (.lit 0)),(.int .i64 (.lit 0)),(.int .i64 (.lit 0)),(.int .i64 (.lit 0)),(.int .i64 (.lit 0)),(.int .i64 (.lit 0)),(.int .i64 (.lit 0)),(.int .i64 (.lit 0)),(.int .i64 (.lit 0)),(.int .i64 (.lit 0)),(.int .i64 (.lit 0)),(.int .i64 (.lit 0)),(.int .i64 (.lit 0)),(.int .i64 (.lit 0)),.nilslice,(.int .i64 (.lit 0)),(.int .i64 (.lit 0)),(.int .i64 (.lit 0)),(.int .i64 (.lit 0)),(.int .i64 (.lit 0)),(.int .i64 (.lit 0)),(.int .i64 (.lit 0)),(.int .i64 (.lit 0)),(.int .i64 (.lit 0)),(.int .i64 (.lit 0)),(.int .i64 (.lit 0)),(.int .i64 (.lit 0)),(.int .i64 (.lit 0)),(.int .i64 (.lit 0)),(.int .i64 (.lit 0)),(.int .i64 (.lit 0))]⟩,
 ⟨none,false,none,iStore 39 (.t 6) (.t 12)⟩,
 ⟨some 7,true,none,iMov (.t 13)⟩])
 (cSeq (cSeq (cOps [⟨some 14,false,none,iMov (.t 7)⟩,
 ⟨some 15,true,none,iCmp .neq (.t 14) (.c (.int .i64 (.lit 0)))⟩])
 (cCond (.t 15) (cSeq (cOps [⟨some 16,false,none,iMov (.t 7)⟩,
 ⟨some 4,true,none,iMov (.c (.int .i64 (.lit 0)))⟩,
 ⟨some 5,true,none,iMov (.t 16)⟩])
 cRet) cSkip))
 (cSeq (cSeq (cOps [⟨some 17,false,none,iLoadN 39 (.t 6)⟩,
 ⟨some 18,false,none,iMov (.t 1)⟩,
 ⟨some 19,false,none,iCall (.c (.func (.func 40) [] [])) [(.t 17),(.t 18)]⟩,
 ⟨some 20,true,none,iNot (.t 19)⟩])
 (cCond (.t 20) (cSeq (cOps [⟨some 4,true,none,iMov (.c (.int .i64 (.lit 0)))⟩,
 ⟨some 5,true,none,iMov (.c (.int .i64 (.lit 41)))⟩])
 cRet) cSkip))
 (cSeq (cOps [⟨some 21,false,none,iLoadN 39 (.t 6)⟩,
 ⟨some 22,false,none,iMov (.t 1)⟩,
 ⟨some 23,false,none,iBuild [(.int .i64 (.lit 0)),(.int .i64 (.lit 0)),(.int .i64 (.lit 0)),(.int .i64 (.lit 0)),(.int .i64 (.lit 0)),(.int .i64 (.lit 0)),(.int .i64 (.lit 0)),(.int .i64 (.lit 0)),(.int .i64 (.lit 0)),(.int .i64 (.lit 0)),(.int .i64 (.lit 0)),(.int .i64 (.lit 0)),(.int .i64 (.lit 0)),(.int .i64 (.lit 0)),(.int .i64 (.lit 0)),(.int .i64 (.lit 0)),(.int .i64 (.lit 0)),(.int .i64 (.lit 0)),(.int .i64 (.lit 0)),(.int .i64 (.lit 0)),(.int .i64 (.lit 0)),(.int .i64 (.lit 0)),.nilslice,(.int .i64 (.lit 0)),(.int .i64 (.lit 0)),(.int .i64 (.lit 0)),(.int .i64 (.lit 0)),(.int .i64 (.lit 0)),(.int .i64 (.lit 0)),(.int .i64 (.lit 0)),(.int .i64 (.lit 0)),(.int .i64 (.lit 0)),(.int .i64 (.lit 0)),(.int .i64 (.lit 0)),(.int .i64 (.lit 0)),(.int .i64 (.lit 0)),(.int .i64 (.lit 0)),(.int .i64 (.lit 0)),(.int .i64 (.lit 0)),(.int .i64 (.lit 0))] [(0,39,(.t 21)),(39,1,(.t 22))]⟩,
 ⟨some 24,false,none,iFunc (.func 46) [(.t 23)] []⟩,
 ⟨some 25,false,none,iCall (.c (.func (.func 32) [] [])) [(.c (.int .i64 (.lit 60))),(.t 24)]⟩,
 ⟨some 8,true,none,iMov (.t 25)⟩])
 (cSeq (cSeq (cOps [⟨some 26,false,none,iMov (.t 8)⟩,
 ⟨some 27,true,none,iCmp .lss (.t 26) (.c (.int .i64 (.lit 0)))⟩])
 (cCond (.t 27) (cSeq (cOps [⟨some 4,true,none,iMov (.c (.int .i64 (.lit 0)))⟩,
 ⟨some 5,true,none,iMov (.c (.int .i64 (.lit 4)))⟩])
 cRet) cSkip))
 (cSeq (cOps [⟨some 28,false,none,iMov (.t 8)⟩,
 ⟨some 4,true,none,iMov (.t 28)⟩,
 ⟨some 5,true,none,iMov (.c (.int .i64 (.lit 0)))⟩])
 cRet))))))),[.t 4,.t 5]⟩
noncomputable def Tryd.kp29:List Nat:=[0,1,2,3,4,5,6,13,26]
noncomputable def Tryd.cf29:CF:=⟨1,(cSeq (cOps [⟨some 1,true,none,iBox 27 (.t 0)⟩,
 ⟨some 2,true,none,iMov (.c (.int .i64 (.lit 0)))⟩,
 ⟨some 3,true,none,iMov (.c (.int .i64 (.lit 0)))⟩])
 (cSeq (cOps [⟨some 8,false,none,iLoadN 23 (.t 1)⟩,
 ⟨some 9,false,none,iCall (.c (.func (.func 30) [] [])) [(.t 8)]⟩,
 ⟨some 7,false,none,iMov (.t 9)⟩,
 ⟨some 10,false,none,iExtract 0 (.t 7)⟩,
 ⟨some 11,false,none,iExtract 1 (.t 7)⟩,
 ⟨some 4,true,none,iAlloc 69 [(.int .i64 (.lit 0)),(.int .i64 (.lit 0)),(.int .i64 (.lit 0)),(.int .i64 (.lit 0)),(.int .i64 (.lit 0)),(.int .i64 (.lit 0)),(.int .i64 (.lit 0)),(.int .i64 (.lit 0)),(.int .i64 (.lit 0)),(.int .i64 (.lit 0)),(.int .i64 (.lit 0)),(.int .i64 (.lit 0)),(.int .i64 (.lit 0)),(.int .i64 (.lit 0)),(.int .i64 (.lit 0)),(.int .i64 (.lit 0)),(.int .i64 (.lit 0)),(.int .i64 (.lit 0)),(.int .i64 (.lit 0)),(.int .i64 (.lit 0)),(.int .i64 (.lit 0)),(.int .i64 (.lit 0)),.nilslice,(.int .i64 (.lit 0)),(.int .i64 (.lit 0)),(.int .i64 (.lit 0)),(.int .i64 (.lit 0)),(.int .i64 (.lit 0)),(.int .i64 (.lit 0)),(.int .i64 (.lit 0)),(.int .i64 (.lit 0)),(.int .i64 (.lit 0)),(.int .i64 (.lit 0)),(.int .i64 (.lit 0)),(.int .i64 (.lit 0)),(.int .i64 (.lit 0)),(.int .i64 (.lit 0)),(.int .i64 (.lit 0)),(.int .i64 (.lit 0))]⟩,
 ⟨none,false,none,iStore 39 (.t 4) (.t 10)⟩,
 ⟨some 5,true,none,iMov (.t 11)⟩])
 (cSeq (cSeq (cOps [⟨some 12,false,none,iMov (.t 5)⟩,
 ⟨some 13,true,none,iCmp .neq (.t 12) (.c (.int .i64 (.lit 0)))⟩])
 (cCond (.t 13) (cSeq (cOps [⟨some 14,false,none,iMov (.t 5)⟩,
 ⟨some 2,true,none,iMov (.c (.int .i64 (.lit 0)))⟩,
 ⟨some 3,true,none,iMov (.t 14)⟩])
 cRet) cSkip))
 (cSeq (cOps [⟨some 15,false,none,iFaddr 0 (.t 4)⟩,
 ⟨some 16,false,none,iFaddr 4 (.t 15)⟩,
 ⟨some 17,false,none,iLoad (.t 16)⟩,
 ⟨some 18,false,none,iArith .add (.t 17) (.c (.int .i64 (.lit 1)))⟩,
 ⟨some 19,false,none,iLoadN 39 (.t 4)⟩,
 ⟨some 20,false,none,iFunc (.func 48) [(.t 19)] []⟩,
 ⟨some 21,false,none,iCall (.c (.func (.func 47) [] [])) [(.t 18),(.t 20)]⟩,
 ⟨some 6,true,none,iMov (.t 21)⟩])
 (cSeq (cSeq (cOps [⟨some 22,false,none,iMov (.t 6)⟩,
 ⟨some 23,false,none,iFaddr 0 (.t 4)⟩,
 ⟨some 24,false,none,iFaddr 4 (.t 23)⟩,
 ⟨some 25,false,none,iLoad (.t 24)⟩,
 ⟨some 26,true,none,iCmp .gtr (.t 22) (.t 25)⟩])
 (cCond (.t 26) (cSeq (cOps [⟨some 2,true,none,iMov (.c (.int .i64 (.lit 0)))⟩,
 ⟨some 3,true,none,iMov (.c (.int .i64 (.lit 4)))⟩])
 cRet) cSkip))
 (cSeq (cOps [⟨some 27,false,none,iMov (.t 6)⟩,
 ⟨some 2,true,none,iMov (.t 27)⟩,
 ⟨some 3,true,none,iMov (.c (.int .i64 (.lit 0)))⟩])
 cRet)))))),[.t 2,.t 3]⟩
noncomputable def Tryd.kp30:List Nat:=[0,1,2,3,4,8]
noncomputable def Tryd.cf30:CF:=⟨1,(cSeq (cOps [⟨some 1,true,none,iBox 27 (.t 0)⟩,
 ⟨some 2,true,none,iAlloc 69 [(.int .i64 (.lit 0)),(.int .i64 (.lit 0)),(.int .i64 (.lit 0)),(.int .i64 (.lit 0)),(.int .i64 (.lit 0)),(.int .i64 (.lit 0)),(.int .i64 (.lit 0)),(.int .i64 (.lit 0)),(.int .i64 (.lit 0)),(.int .i64 (.lit 0)),(.int .i64 (.lit 0)),(.int .i64 (.lit 0)),(.int .i64 (.lit 0)),(.int .i64 (.lit 0)),(.int .i64 (.lit 0)),(.int .i64 (.lit 0)),(.int .i64 (.lit 0)),(.int .i64 (.lit 0)),(.int .i64 (.lit 0)),(.int .i64 (.lit 0)),(.int .i64 (.lit 0)),(.int .i64 (.lit 0)),.nilslice,(.int .i64 (.lit 0)),(.int .i64 (.lit 0)),(.int .i64 (.lit 0)),(.int .i64 (.lit 0)),(.int .i64 (.lit 0)),(.int .i64 (.lit 0)),(.int .i64 (.lit 0)),(.int .i64 (.lit 0)),(.int .i64 (.lit 0)),(.int .i64 (.lit 0)),(.int .i64 (.lit 0)),(.int .i64 (.lit 0)),(.int .i64 (.lit 0)),(.int .i64 (.lit 0)),(.int .i64 (.lit 0)),(.int .i64 (.lit 0))]⟩,
 ⟨some 3,true,none,iMov (.c (.int .i64 (.lit 0)))⟩])
 (cSeq (cSeq (cOps [⟨some 5,false,none,iLoadN 23 (.t 1)⟩,
 ⟨some 6,false,none,iCall (.c (.func (.func 22) [] [])) [(.t 5)]⟩,
 ⟨some 4,true,none,iMov (.t 6)⟩])
 (cSeq (cOps [⟨some 7,false,none,iMov (.t 4)⟩,
 ⟨some 8,true,none,iCmp .neq (.t 7) (.c (.int .i64 (.lit 0)))⟩])
 (cCond (.t 8) (cSeq (cOps [⟨some 9,false,none,iBuild [(.int .i64 (.lit 0)),(.int .i64 (.lit 0)),(.int .i64 (.lit 0)),(.int .i64 (.lit 0)),(.int .i64 (.lit 0)),(.int .i64 (.lit 0)),(.int .i64 (.lit 0)),(.int .i64 (.lit 0)),(.int .i64 (.lit 0)),(.int .i64 (.lit 0)),(.int .i64 (.lit 0)),(.int .i64 (.lit 0)),(.int .i64 (.lit 0)),(.int .i64 (.lit 0)),(.int .i64 (.lit 0)),(.int .i64 (.lit 0)),(.int .i64 (.lit 0)),(.int .i64 (.lit 0)),(.int .i64 (.lit 0)),(.int .i64 (.lit 0)),(.int .i64 (.lit 0)),(.int .i64 (.lit 0)),.nilslice,(.int .i64 (.lit 0)),(.int .i64 (.lit 0)),(.int .i64 (.lit 0)),(.int .i64 (.lit 0)),(.int .i64 (.lit 0)),(.int .i64 (.lit 0)),(.int .i64 (.lit 0)),(.int .i64 (.lit 0)),(.int .i64 (.lit 0)),(.int .i64 (.lit 0)),(.int .i64 (.lit 0)),(.int .i64 (.lit 0)),(.int .i64 (.lit 0)),(.int .i64 (.lit 0)),(.int .i64 (.lit 0)),(.int .i64 (.lit 0))] []⟩,
 ⟨some 10,false,none,iMov (.t 4)⟩,
 ⟨none,false,none,iStore 39 (.t 2) (.t 9)⟩,
 ⟨some 3,true,none,iMov (.t 10)⟩])
 cRet) cSkip)))
 (cSeq (cOps [⟨some 11,false,none,iLoadN 23 (.t 1)⟩,
 ⟨some 12,false,none,iCall (.c (.func (.func 49) [] [])) [(.t 11)]⟩,
 ⟨none,false,none,iStore 39 (.t 2) (.t 12)⟩,
 ⟨some 3,true,none,iMov (.c (.int .i64 (.lit 0)))⟩])
 cRet))),[.cell 2 true 39,.t 3]⟩
noncomputable def Tryd.kp31:List Nat:=[0,1,2,3,4,6,7,8,9,23,30,31,32]
noncomputable def Tryd.cf31:CF:=⟨1,(cSeq (cOps [⟨some 1,true,none,iBox 69 (.t 0)⟩,
 ⟨some 2,true,none,iMov (.c .nilslice)⟩,
 ⟨some 3,true,none,iMov (.c (.int .i64 (.lit 0)))⟩])
 (cSeq (cOps [⟨some 11,false,none,iCall (.c (.func (.func 50) [] [])) []⟩,
 ⟨some 10,false,none,iMov (.t 11)⟩,
 ⟨some 12,false,none,iExtract 0 (.t 10)⟩,
 ⟨some 13,false,none,iExtract 1 (.t 10)⟩,
 ⟨some 4,true,none,iAlloc 95 [.nilFunc,.nilFunc]⟩,
 ⟨some 5,false,none,iAlloc 95 [.nilFunc,.nilFunc]⟩,
 ⟨none,false,none,iStore 2 (.t 4) (.t 12)⟩,
 ⟨none,false,none,iStore 2 (.t 5) (.t 13)⟩])
 (cSeq (cOps [⟨some 14,false,none,iLoadN 39 (.t 1)⟩,
 ⟨some 15,false,none,iCall (.c (.func (.func 51) [] [])) [(.t 14)]⟩,
 ⟨some 6,true,none,iMov (.t 15)⟩])
 (cSeq (cOps [⟨some 16,false,none,iLoadN 39 (.t 1)⟩,
 ⟨some 17,false,none,iLoadN 2 (.t 4)⟩,
 ⟨some 18,false,none,iCall (.c (.func (.func 52) [] [])) [(.t 16),(.t 17)]⟩,
 ⟨some 7,true,none,iAlloc 102 [(.int .i64 (.lit 0)),(.int .i64 (.lit 0)),(.int .i64 (.lit 0))]⟩,
 ⟨none,false,none,iStore 3 (.t 7) (.t 18)⟩])
 (cSeq (cSeq (cOps [⟨some 19,false,none,iMov (.t 6)⟩,
 ⟨some 20,false,none,iLoadN 3 (.t 7)⟩,
 ⟨some 21,false,none,iLookup (.agg [(.bool (.lit false)),(.int .i64 (.lit 0)),(.int .i64 (.lit 0)),(.int .i64 (.lit 0)),(.int .i64 (.lit 0)),(.int .i64 (.lit 0)),(.int .i64 (.lit 0)),(.int .i64 (.lit 0)),(.int .i64 (.lit 0))]) true 3 [(0,.int),(1,.int),(2,.int)] false (.t 19) (.t 20)⟩,
 ⟨some 22,false,none,iField false 0 1 (.t 21)⟩,
 ⟨some 23,true,none,iNot (.t 22)⟩])
 (cCond (.t 23) (cSeq (cOps [⟨some 2,true,none,iMov (.c .nilslice)⟩,
 ⟨some 3,true,none,iMov (.c (.int .i64 (.lit 4)))⟩])
 cRet) cSkip))
 (cSeq (cOps [⟨some 24,false,none,iFaddr 0 (.t 1)⟩,
 ⟨some 25,false,none,iFaddr 22 (.t 24)⟩,
 ⟨some 26,false,none,iLoad (.t 25)⟩,
 ⟨some 27,false,none,iLenS (.t 26)⟩,
 ⟨some 28,false,none,iMkslice 76 [(.int .i64 (.lit 0)),(.int .i64 (.lit 0))] 16 (.t 27) (.t 27)⟩,
 ⟨some 8,true,none,iMov (.t 28)⟩])
 (cSeq (cSeq (cOps [⟨some 29,false,none,iMov (.t 8)⟩,
 ⟨some 30,true,none,iLenS (.t 29)⟩,
 ⟨some 31,true,none,iMov (.c (.int .i64 (.lit 0)))⟩])
 (cBlock 0 (cLoop (cSeq (cOps [⟨some 32,true,none,iCmp .lss (.t 31) (.t 30)⟩])
 (cSeq (cCond (.t 32) cSkip (cExit 0))
 (cSeq (cBlock 1 (cSeq (cOps [⟨some 33,false,none,iMov (.t 31)⟩,
 ⟨some 9,true,none,iMov (.t 33)⟩])
 (cSeq (cOps [⟨some 34,false,none,iMov (.t 8)⟩,
 ⟨some 35,false,none,iMov (.t 9)⟩,
 ⟨some 36,false,none,iMov (.t 6)⟩,
 ⟨some 37,false,none,iLoadN 3 (.t 7)⟩,
 ⟨some 38,false,none,iLookup (.agg [(.bool (.lit false)),(.int .i64 (.lit 0)),(.int .i64 (.lit 0)),(.int .i64 (.lit 0)),(.int .i64 (.lit 0)),(.int .i64 (.lit 0)),(.int .i64 (.lit 0)),(.int .i64 (.lit 0)),(.int .i64 (.lit 0))]) true 3 [(0,.int),(1,.int),(2,.int)] false (.t 36) (.t 37)⟩,
 ⟨some 39,false,none,iField true 2 7 (.t 38)⟩,
 ⟨some 40,false,none,iField true 0 2 (.t 39)⟩,
 ⟨some 41,false,none,iIaddr 2 (.t 34) (.t 35)⟩,
 ⟨none,false,none,iStore 2 (.t 41) (.t 40)⟩])
 (cOps [⟨some 42,false,none,iMov (.t 6)⟩,
 ⟨some 43,false,none,iLoadN 3 (.t 7)⟩,
 ⟨some 44,false,none,iLookup (.agg [(.bool (.lit false)),(.int .i64 (.lit 0)),(.int .i64 (.lit 0)),(.int .i64 (.lit 0)),(.int .i64 (.lit 0)),(.int .i64 (.lit 0)),(.int .i64 (.lit 0)),(.int .i64 (.lit 0)),(.int .i64 (.lit 0))]) true 3 [(0,.int),(1,.int),(2,.int)] false (.t 42) (.t 43)⟩,
 ⟨some 45,false,none,iField true 2 7 (.t 44)⟩,
 ⟨some 46,false,none,iField true 2 3 (.t 45)⟩,
 ⟨none,false,none,iStore 3 (.t 7) (.t 46)⟩]))))
 (cOps [⟨some 47,false,none,iArith .add (.t 31) (.c (.int .i64 (.lit 1)))⟩,
 ⟨some 31,true,none,iMov (.t 47)⟩])))))))
 (cSeq (cOps [⟨some 48,false,none,iMov (.t 8)⟩,
 ⟨some 2,true,none,iMov (.t 48)⟩,
 ⟨some 3,true,none,iMov (.c (.int .i64 (.lit 0)))⟩])
 cRet)))))))),[.t 2,.t 3]⟩
noncomputable def Tryd.kp32:List Nat:=[0,1,3,4]
noncomputable def Tryd.cf32:CF:=⟨2,(cSeq (cOps [⟨some 3,true,none,iBox 74 (.t 1)⟩,
 ⟨some 4,true,none,iMov (.c (.int .i64 (.lit 0)))⟩])
 (cSeq (cOps [⟨some 5,false,none,iMov (.t 0)⟩,
 ⟨some 6,false,none,iArith .add (.t 5) (.c (.int .i64 (.lit 1)))⟩,
 ⟨some 7,false,none,iFunc (.func 53) [] [(.t 3)]⟩,
 ⟨some 8,false,none,iCall (.c (.func (.func 47) [] [])) [(.t 6),(.t 7)]⟩,
 ⟨some 9,false,none,iArith .sub (.t 8) (.c (.int .i64 (.lit 1)))⟩,
 ⟨some 4,true,none,iMov (.t 9)⟩])
 cRet)),[.t 4]⟩
noncomputable def Tryd.kp33:List Nat:=[0,1,2,4,5]
noncomputable def Tryd.cf33:CF:=⟨2,(cSeq (cOps [⟨some 2,true,none,iBox 69 (.t 0)⟩,
 ⟨some 4,true,none,iMov (.c (.bool (.lit false)))⟩])
 (cSeq (cOps [⟨some 6,false,none,iFaddr 0 (.t 2)⟩,
 ⟨some 7,false,none,iLoadN 23 (.t 6)⟩,
 ⟨some 5,true,none,iAlloc 27 [(.int .i64 (.lit 0)),(.int .i64 (.lit 0)),(.int .i64 (.lit 0)),(.int .i64 (.lit 0)),(.int .i64 (.lit 0)),(.int .i64 (.lit 0)),(.int .i64 (.lit 0)),(.int .i64 (.lit 0)),(.int .i64 (.lit 0)),(.int .i64 (.lit 0)),(.int .i64 (.lit 0)),(.int .i64 (.lit 0)),(.int .i64 (.lit 0)),(.int .i64 (.lit 0)),(.int .i64 (.lit 0)),(.int .i64 (.lit 0)),(.int .i64 (.lit 0)),(.int .i64 (.lit 0)),(.int .i64 (.lit 0)),(.int .i64 (.lit 0)),(.int .i64 (.lit 0)),(.int .i64 (.lit 0)),.nilslice]⟩,
 ⟨none,false,none,iStore 23 (.t 5) (.t 7)⟩])
 (cSeq (cOps [⟨some 8,false,none,iFaddr 22 (.t 5)⟩,
 ⟨some 9,false,none,iLoad (.t 8)⟩,
 ⟨some 10,false,none,iMov (.t 1)⟩,
 ⟨some 11,false,none,iMov (.t 1)⟩,
 ⟨some 12,false,none,iSlice 4 (.t 9) none (some (.t 10)) (some (.t 11))⟩,
 ⟨some 13,false,none,iFaddr 22 (.t 5)⟩,
 ⟨none,false,none,iStore 1 (.t 13) (.t 12)⟩])
 (cSeq (cOps [⟨some 14,false,none,iLoadN 23 (.t 5)⟩,
 ⟨some 15,false,none,iCall (.c (.func (.func 49) [] [])) [(.t 14)]⟩,
 ⟨some 16,false,none,iCall (.c (.func (.func 54) [] [])) [(.t 15)]⟩,
 ⟨some 4,true,none,iMov (.t 16)⟩])
 cRet)))),[.t 4]⟩
noncomputable def Tryd.kp37:List Nat:=[0,1,2,4,5,6,7,14,15,16,17,18,51]
noncomputable def Tryd.cf37:CF:=⟨2,(cSeq (cOps [⟨some 2,true,none,iBox 69 (.t 0)⟩,
 ⟨some 4,true,none,iMov (.c (.bool (.lit false)))⟩])
 (cSeq (cSeq (cOps [⟨some 8,false,none,iMov (.t 1)⟩,
 ⟨some 9,false,none,iLenS (.t 8)⟩,
 ⟨some 10,false,none,iFaddr 0 (.t 2)⟩,
 ⟨some 11,false,none,iFaddr 22 (.t 10)⟩,
 ⟨some 12,false,none,iLoad (.t 11)⟩,
 ⟨some 13,false,none,iLenS (.t 12)⟩,
 ⟨some 14,true,none,iCmp .neq (.t 9) (.t 13)⟩])
 (cCond (.t 14) (cSeq (cOps [⟨some 4,true,none,iMov (.c (.bool (.lit false)))⟩])
 cRet) cSkip))
 (cSeq (cSeq (cOps [⟨some 15,true,none,iMov (.t 1)⟩,
 ⟨some 16,true,none,iLenS (.t 15)⟩,
 ⟨some 17,true,none,iMov (.c (.int .i64 (.lit 0)))⟩])
 (cBlock 0 (cLoop (cSeq (cOps [⟨some 18,true,none,iCmp .lss (.t 17) (.t 16)⟩])
 (cSeq (cCond (.t 18) cSkip (cExit 0))
 (cSeq (cBlock 1 (cSeq (cOps [⟨some 19,false,none,iMov (.t 17)⟩,
 ⟨some 20,false,none,iIaddr 2 (.t 15) (.t 17)⟩,
 ⟨some 21,false,none,iLoadN 2 (.t 20)⟩,
 ⟨some 6,true,none,iAlloc 76 [(.int .i64 (.lit 0)),(.int .i64 (.lit 0))]⟩,
 ⟨some 5,true,none,iMov (.t 19)⟩,
 ⟨none,false,none,iStore 2 (.t 6) (.t 21)⟩])
 (cSeq (cOps [⟨some 22,false,none,iFaddr 0 (.t 2)⟩,
 ⟨some 23,false,none,iFaddr 22 (.t 22)⟩,
 ⟨some 24,false,none,iLoad (.t 23)⟩,
 ⟨some 25,false,none,iMov (.t 5)⟩,
 ⟨some 26,false,none,iIaddr 4 (.t 24) (.t 25)⟩,
 ⟨some 27,false,none,iFaddr 3 (.t 26)⟩,
 ⟨some 28,false,none,iLoad (.t 27)⟩,
 ⟨some 7,true,none,iMov (.t 28)⟩])
 (cSeq (cOps [⟨some 29,false,none,iFaddr 0 (.t 6)⟩,
 ⟨some 30,false,none,iLoad (.t 29)⟩,
 ⟨some 31,false,none,iCmp .lss (.t 30) (.c (.int .i64 (.lit 0)))⟩,
 ⟨some 32,false,none,iMov (.t 31)⟩,
 ⟨some 33,false,some (32,false),iFaddr 0 (.t 6)⟩,
 ⟨some 34,false,some (32,false),iLoad (.t 33)⟩,
 ⟨some 35,false,some (32,false),iMov (.t 7)⟩,
 ⟨some 36,false,some (32,false),iCmp .gtr (.t 34) (.t 35)⟩,
 ⟨some 37,false,none,iPick (.t 32) (.c (.bool (.lit true))) (.t 36)⟩,
 ⟨some 38,false,none,iMov (.t 37)⟩,
 ⟨some 39,false,some (38,false),iFaddr 1 (.t 6)⟩,
 ⟨some 40,false,some (38,false),iLoad (.t 39)⟩,
 ⟨some 41,false,some (38,false),iCmp .lss (.t 40) (.c (.int .i64 (.lit 0)))⟩,
 ⟨some 42,false,none,iPick (.t 38) (.c (.bool (.lit true))) (.t 41)⟩,
 ⟨some 43,false,none,iMov (.t 42)⟩,
 ⟨some 44,false,some (43,false),iFaddr 1 (.t 6)⟩,
 ⟨some 45,false,some (43,false),iLoad (.t 44)⟩,
 ⟨some 46,false,some (43,false),iMov (.t 7)⟩,
 ⟨some 47,false,some (43,false),iFaddr 0 (.t 6)⟩,
 ⟨some 48,false,some (43,false),iLoad (.t 47)⟩,
 ⟨some 49,false,some (43,false),iArith .sub (.t 46) (.t 48)⟩,
 ⟨some 50,false,some (43,false),iCmp .gtr (.t 45) (.t 49)⟩,
 ⟨some 51,true,none,iPick (.t 43) (.c (.bool (.lit true))) (.t 50)⟩])
 (cCond (.t 51) (cSeq (cOps [⟨some 4,true,none,iMov (.c (.bool (.lit false)))⟩])
 cRet) cSkip)))))
 (cOps [⟨some 52,false,none,iArith .add (.t 17) (.c (.int .i64 (.lit 1)))⟩,
 ⟨some 17,true,none,iMov (.t 52)⟩])))))))
 (cSeq (cOps [⟨some 4,true,none,iMov (.c (.bool (.lit true)))⟩])
 cRet)))),[.t 4]⟩
noncomputable def Tryd.ra38017:C:=(cOps [⟨some 8,true,none,iAlloc 105 [(.int .i64 (.lit 0)),(.int .i64 (.lit 0)),(.int .i64 (.lit 0)),(.int .i64 (.lit 0)),(.int .i64 (.lit 0)),(.int .i64 (.lit 0)),(.int .i64 (.lit 0))]⟩,
 ⟨none,false,none,iStore 7 (.t 8) (.t 17)⟩])
noncomputable def Tryd.rb38017:C:=(cBlock 1 (cSeq (cOps [⟨some 18,false,none,iLoadN 39 (.t 2)⟩,
 ⟨some 19,false,none,iLoadN 7 (.t 8)⟩,
 ⟨some 20,true,none,iCall (.c (.func (.func 57) [] [])) [(.t 18),(.t 19)]⟩])
 (cCond (.t 20) (cSeq (cOps [⟨some 21,false,none,iFaddr 2 (.t 8)⟩,
 ⟨some 22,false,none,iFaddr 0 (.t 21)⟩,
 ⟨some 23,false,none,iLoad (.t 22)⟩,
 ⟨some 24,false,none,iArith .sub (.t 23) (.c (.int .i64 (.lit 1)))⟩,
 ⟨none,false,none,iStore 1 (.t 4) (.t 24)⟩,
 ⟨none,false,none,iStore 1 (.t 5) (.c (.int .i64 (.lit 0)))⟩])
 cRet) cSkip)))
noncomputable def Tryd.kp38:List Nat:=[0,1,2,4,5,6,8,16,17,20]
noncomputable def Tryd.cf38:CF:=⟨2,(cSeq (cOps [⟨some 2,true,none,iBox 69 (.t 0)⟩,
 ⟨some 4,true,none,iAlloc 3 [(.int .i64 (.lit 0))]⟩,
 ⟨some 5,true,none,iAlloc 35 [(.int .i64 (.lit 0))]⟩])
 (cSeq (cOps [⟨some 10,false,none,iCall (.c (.func (.func 50) [] [])) []⟩,
 ⟨some 9,false,none,iMov (.t 10)⟩,
 ⟨some 11,false,none,iExtract 0 (.t 9)⟩,
 ⟨some 12,false,none,iExtract 1 (.t 9)⟩,
 ⟨some 6,true,none,iAlloc 95 [.nilFunc,.nilFunc]⟩,
 ⟨some 7,false,none,iAlloc 95 [.nilFunc,.nilFunc]⟩,
 ⟨none,false,none,iStore 2 (.t 6) (.t 11)⟩,
 ⟨none,false,none,iStore 2 (.t 7) (.t 12)⟩])
 (cSeq (cSeq (cOps [⟨some 13,false,none,iLoadN 39 (.t 2)⟩,
 ⟨some 14,false,none,iMov (.t 1)⟩,
 ⟨some 15,false,none,iLoadN 2 (.t 6)⟩,
 ⟨some 16,true,none,iCall (.c (.func (.func 56) [] [])) [(.t 13),(.t 14),(.t 15)]⟩])
 (cBlock 0 (cRange (.t 16) [17] 38017)))
 (cSeq (cOps [⟨none,false,none,iStore 1 (.t 4) (.c (.int .i64 (.lit 0)))⟩,
 ⟨none,false,none,iStore 1 (.t 5) (.c (.int .i64 (.lit 4)))⟩])
 cRet)))),[.cell 4 false 1,.cell 5 false 1]⟩
noncomputable def Tryd.kp40:List Nat:=[0,1,2,4]
noncomputable def Tryd.cf40:CF:=⟨2,(cSeq (cOps [⟨some 2,true,none,iBox 69 (.t 0)⟩,
 ⟨some 4,true,none,iMov (.c (.bool (.lit false)))⟩])
 (cSeq (cOps [⟨some 5,false,none,iMov (.t 1)⟩,
 ⟨some 6,false,none,iCmp .geq (.t 5) (.c (.int .i64 (.lit 0)))⟩,
 ⟨some 7,false,none,iMov (.t 6)⟩,
 ⟨some 8,false,some (7,true),iMov (.t 1)⟩,
 ⟨some 9,false,some (7,true),iFaddr 0 (.t 2)⟩,
 ⟨some 10,false,some (7,true),iFaddr 22 (.t 9)⟩,
 ⟨some 11,false,some (7,true),iLoad (.t 10)⟩,
 ⟨some 12,false,some (7,true),iLenS (.t 11)⟩,
 ⟨some 13,false,some (7,true),iCmp .lss (.t 8) (.t 12)⟩,
 ⟨some 14,false,none,iPick (.t 7) (.t 13) (.c (.bool (.lit false)))⟩,
 ⟨some 4,true,none,iMov (.t 14)⟩])
 cRet)),[.t 4]⟩
noncomputable def Tryd.ra41021:C:=(cOps [⟨some 11,true,none,iAlloc 105 [(.int .i64 (.lit 0)),(.int .i64 (.lit 0)),(.int .i64 (.lit 0)),(.int .i64 (.lit 0)),(.int .i64 (.lit 0)),(.int .i64 (.lit 0)),(.int .i64 (.lit 0))]⟩,
 ⟨none,false,none,iStore 7 (.t 11) (.t 21)⟩])
noncomputable def Tryd.rb41021:C:=(cBlock 1 (cSeq (cSeq (cOps [⟨some 22,false,none,iLoadN 7 (.t 11)⟩,
 ⟨some 23,true,none,iCall (.c (.func (.func 58) [] [])) [(.t 22)]⟩])
 (cCond (.t 23) (cSeq (cOps [⟨some 24,false,none,iBuild [(.int .i64 (.lit 0)),(.int .i64 (.lit 0))] []⟩,
 ⟨some 25,false,none,iBuild [(.int .i64 (.lit 0)),(.int .i64 (.lit 0))] []⟩,
 ⟨none,false,none,iStore 2 (.t 4) (.t 24)⟩,
 ⟨none,false,none,iStore 2 (.t 5) (.t 25)⟩,
 ⟨none,false,none,iStore 1 (.t 6) (.c (.int .i64 (.lit 42)))⟩])
 cRet) cSkip))
 (cOps [⟨some 26,false,none,iFaddr 2 (.t 11)⟩,
 ⟨some 27,false,none,iFaddr 1 (.t 26)⟩,
 ⟨some 28,false,none,iLoadN 2 (.t 27)⟩,
 ⟨none,false,none,iStore 2 (.t 9) (.t 28)⟩])))
noncomputable def Tryd.ra41033:C:=(cOps [⟨some 12,true,none,iAlloc 105 [(.int .i64 (.lit 0)),(.int .i64 (.lit 0)),(.int .i64 (.lit 0)),(.int .i64 (.lit 0)),(.int .i64 (.lit 0)),(.int .i64 (.lit 0)),(.int .i64 (.lit 0))]⟩,
 ⟨none,false,none,iStore 7 (.t 12) (.t 33)⟩])
noncomputable def Tryd.rb41033:C:=(cBlock 3 (cOps [⟨some 34,false,none,iFaddr 2 (.t 12)⟩,
 ⟨some 35,false,none,iFaddr 1 (.t 34)⟩,
 ⟨some 36,false,none,iLoadN 2 (.t 35)⟩,
 ⟨none,false,none,iStore 2 (.t 10) (.t 36)⟩]))
noncomputable def Tryd.kp41:List Nat:=[0,1,2,4,5,6,7,8,9,10,11,12,20,21,23,32,33]
noncomputable def Tryd.cf41:CF:=⟨2,(cSeq (cOps [⟨some 2,true,none,iBox 69 (.t 0)⟩,
 ⟨some 4,true,none,iAlloc 23 [(.int .i64 (.lit 0)),(.int .i64 (.lit 0))]⟩,
 ⟨some 5,true,none,iAlloc 23 [(.int .i64 (.lit 0)),(.int .i64 (.lit 0))]⟩,
 ⟨some 6,true,none,iAlloc 35 [(.int .i64 (.lit 0))]⟩])
 (cSeq (cOps [⟨some 14,false,none,iCall (.c (.func (.func 50) [] [])) []⟩,
 ⟨some 13,false,none,iMov (.t 14)⟩,
 ⟨some 15,false,none,iExtract 0 (.t 13)⟩,
 ⟨some 16,false,none,iExtract 1 (.t 13)⟩,
 ⟨some 7,true,none,iAlloc 95 [.nilFunc,.nilFunc]⟩,
 ⟨some 8,true,none,iAlloc 95 [.nilFunc,.nilFunc]⟩,
 ⟨none,false,none,iStore 2 (.t 7) (.t 15)⟩,
 ⟨none,false,none,iStore 2 (.t 8) (.t 16)⟩])
 (cSeq (cOps [⟨some 9,true,none,iAlloc 100 [(.int .i64 (.lit 0)),(.int .i64 (.lit 0))]⟩,
 ⟨some 10,true,none,iAlloc 100 [(.int .i64 (.lit 0)),(.int .i64 (.lit 0))]⟩])
 (cSeq (cSeq (cOps [⟨some 17,false,none,iLoadN 39 (.t 2)⟩,
 ⟨some 18,false,none,iMov (.t 1)⟩,
 ⟨some 19,false,none,iLoadN 2 (.t 7)⟩,
 ⟨some 20,true,none,iCall (.c (.func (.func 56) [] [])) [(.t 17),(.t 18),(.t 19)]⟩])
 (cBlock 0 (cRange (.t 20) [21] 41021)))
 (cSeq (cSeq (cOps [⟨some 29,false,none,iLoadN 39 (.t 2)⟩,
 ⟨some 30,false,none,iMov (.t 1)⟩,
 ⟨some 31,false,none,iLoadN 2 (.t 8)⟩,
 ⟨some 32,true,none,iCall (.c (.func (.func 56) [] [])) [(.t 29),(.t 30),(.t 31)]⟩])
 (cBlock 2 (cRange (.t 32) [33] 41033)))
 (cSeq (dOps 0 [⟨⟨some 37,false,none,iIaddrA 1 2 (.t 9) (.c (.int .i64 (.lit 0)))⟩,[9],false,0,0,none,[]⟩,
 ⟨⟨some 38,false,none,iLoad (.t 37)⟩,[37],false,0,0,none,[]⟩,
 ⟨⟨some 39,false,none,iIaddrA 1 2 (.t 10) (.c (.int .i64 (.lit 0)))⟩,[10],false,0,0,none,[]⟩,
 ⟨⟨some 40,false,none,iLoad (.t 39)⟩,[39],false,0,0,none,[]⟩,
 ⟨⟨some 41,false,none,iBuild [(.int .i64 (.lit 0)),(.int .i64 (.lit 0))] [(0,1,(.t 38)),(1,1,(.t 40))]⟩,[38,40],false,0,0,none,[]⟩,
 ⟨⟨some 42,false,none,iIaddrA 1 2 (.t 9) (.c (.int .i64 (.lit 1)))⟩,[9],false,0,1,none,[]⟩,
 ⟨⟨some 43,false,none,iLoad (.t 42)⟩,[42],false,0,1,none,[]⟩,
 ⟨⟨some 44,false,none,iIaddrA 1 2 (.t 10) (.c (.int .i64 (.lit 1)))⟩,[10],false,0,1,none,[]⟩,
 ⟨⟨some 45,false,none,iLoad (.t 44)⟩,[44],false,0,1,none,[]⟩,
 ⟨⟨some 46,false,none,iBuild [(.int .i64 (.lit 0)),(.int .i64 (.lit 0))] [(0,1,(.t 43)),(1,1,(.t 45))]⟩,[43,45],false,0,1,none,[]⟩,
 ⟨⟨none,false,none,iStore 2 (.t 4) (.t 41)⟩,[4,41],true,0,0,none,[]⟩,
 ⟨⟨none,false,none,iStore 2 (.t 5) (.t 46)⟩,[5,46],true,1,0,none,[]⟩,
 ⟨⟨none,false,none,iStore 1 (.t 6) (.c (.int .i64 (.lit 0)))⟩,[6],true,2,0,none,[]⟩])
 cRet)))))),[.cell 4 true 2,.cell 5 true 2,.cell 6 false 1]⟩
noncomputable def Tryd.kp42:List Nat:=[0,1,2,3,4,18,19,20,28]
noncomputable def Tryd.cf42:CF:=⟨1,(cSeq (cOps [⟨some 1,true,none,iBox 27 (.t 0)⟩,
 ⟨some 2,true,none,iMov (.c (.bool (.lit false)))⟩])
 (cSeq (cSeq (cOps [⟨some 5,false,none,iFaddr 4 (.t 1)⟩,
 ⟨some 6,false,none,iLoad (.t 5)⟩,
 ⟨some 7,false,none,iFaddr 5 (.t 1)⟩,
 ⟨some 8,false,none,iLoad (.t 7)⟩,
 ⟨some 9,false,none,iFaddr 6 (.t 1)⟩,
 ⟨some 10,false,none,iLoad (.t 9)⟩,
 ⟨some 11,false,none,iFaddr 7 (.t 1)⟩,
 ⟨some 12,false,none,iLoad (.t 11)⟩,
 ⟨some 13,false,none,iFaddr 21 (.t 1)⟩,
 ⟨some 14,false,none,iLoad (.t 13)⟩,
 ⟨some 15,false,none,iFaddr 22 (.t 1)⟩,
 ⟨some 16,false,none,iLoad (.t 15)⟩,
 ⟨some 17,false,none,iLenS (.t 16)⟩,
 ⟨some 18,true,none,iBuild [(.int .i64 (.lit 0)),(.int .i64 (.lit 0)),(.int .i64 (.lit 0)),(.int .i64 (.lit 0)),(.int .i64 (.lit 0)),(.int .i64 (.lit 0))] [(0,1,(.t 6)),(1,1,(.t 8)),(2,1,(.t 10)),(3,1,(.t 12)),(4,1,(.t 14)),(5,1,(.t 17))]⟩,
 ⟨some 19,true,none,iMov (.c (.int .i64 (.lit 0)))⟩])
 (cBlock 0 (cLoop (cSeq (cOps [⟨some 20,true,none,iCmp .lss (.t 19) (.c (.int .i64 (.lit 6)))⟩])
 (cSeq (cCond (.t 20) cSkip (cExit 0))
 (cSeq (cBlock 1 (cSeq (cOps [⟨some 21,false,none,iMov (.t 19)⟩,
 ⟨some 22,false,none,iIndex false 1 6 (.t 18) (.t 19)⟩,
 ⟨some 3,true,none,iMov (.t 21)⟩,
 ⟨some 4,true,none,iMov (.t 22)⟩])
 (cSeq (cOps [⟨some 23,false,none,iMov (.t 4)⟩,
 ⟨some 24,false,none,iMov (.t 3)⟩,
 ⟨some 25,false,none,iIaddrA 2 6 (.c (.ptr 0 0)) (.t 24)⟩,
 ⟨some 26,false,none,iLoadN 2 (.t 25)⟩,
 ⟨some 27,false,none,iCall (.c (.func (.func 43) [] [])) [(.t 23),(.t 26)]⟩,
 ⟨some 28,true,none,iNot (.t 27)⟩])
 (cCond (.t 28) (cSeq (cOps [⟨some 2,true,none,iMov (.c (.bool (.lit false)))⟩])
 cRet) cSkip))))
 (cOps [⟨some 29,false,none,iArith .add (.t 19) (.c (.int .i64 (.lit 1)))⟩,
 ⟨some 19,true,none,iMov (.t 29)⟩])))))))
 (cSeq (cOps [⟨some 30,false,none,iFaddr 4 (.t 1)⟩,
 ⟨some 31,false,none,iLoad (.t 30)⟩,
 ⟨some 32,false,none,iFaddr 0 (.t 1)⟩,
 ⟨some 33,false,none,iLoadN 2 (.t 32)⟩,
 ⟨some 34,false,none,iBslice 23 [(.int .i64 (.lit 0)),(.int .i64 (.lit 0))] 1 [(0,2,(.t 33))]⟩,
 ⟨some 35,false,none,iCall (.c (.func (.func 59) [] [])) [(.t 31),(.t 34)]⟩,
 ⟨some 36,false,none,iMov (.t 35)⟩,
 ⟨some 37,false,some (36,true),iFaddr 5 (.t 1)⟩,
 ⟨some 38,false,some (36,true),iLoad (.t 37)⟩,
 ⟨some 39,false,some (36,true),iFaddr 2 (.t 1)⟩,
 ⟨some 40,false,some (36,true),iLoadN 2 (.t 39)⟩,
 ⟨some 41,false,some (36,true),iBslice 23 [(.int .i64 (.lit 0)),(.int .i64 (.lit 0))] 1 [(0,2,(.t 40))]⟩,
 ⟨some 42,false,some (36,true),iCall (.c (.func (.func 59) [] [])) [(.t 38),(.t 41)]⟩,
 ⟨some 43,false,none,iPick (.t 36) (.t 42) (.c (.bool (.lit false)))⟩,
 ⟨some 44,false,none,iMov (.t 43)⟩,
 ⟨some 45,false,some (44,true),iFaddr 8 (.t 1)⟩,
 ⟨some 46,false,some (44,true),iSliceA 2 2 (.t 45) none none none⟩,
 ⟨some 47,false,some (44,true),iCall (.c (.func (.func 59) [] [])) [(.c (.int .i64 (.lit 3))),(.t 46)]⟩,
 ⟨some 48,false,none,iPick (.t 44) (.t 47) (.c (.bool (.lit false)))⟩,
 ⟨some 49,false,none,iMov (.t 48)⟩,
 ⟨some 50,false,some (49,true),iFaddr 12 (.t 1)⟩,
 ⟨some 51,false,some (49,true),iSliceA 2 2 (.t 50) none none none⟩,
 ⟨some 52,false,some (49,true),iCall (.c (.func (.func 59) [] [])) [(.c (.int .i64 (.lit 3))),(.t 51)]⟩,
 ⟨some 53,false,none,iPick (.t 49) (.t 52) (.c (.bool (.lit false)))⟩,
 ⟨some 54,false,none,iMov (.t 53)⟩,
 ⟨some 55,false,some (54,true),iLoadN 23 (.t 1)⟩,
 ⟨some 56,false,some (54,true),iCall (.c (.func (.func 60) [] [])) [(.t 55)]⟩,
 ⟨some 57,false,none,iPick (.t 54) (.t 56) (.c (.bool (.lit false)))⟩,
 ⟨some 58,false,none,iMov (.t 57)⟩,
 ⟨some 59,false,some (58,true),iFaddr 20 (.t 1)⟩,
 ⟨some 60,false,some (58,true),iLoad (.t 59)⟩,
 ⟨some 61,false,some (58,true),iFaddr 5 (.t 1)⟩,
 ⟨some 62,false,some (58,true),iLoad (.t 61)⟩,
 ⟨some 63,false,some (58,true),iBuild [(.int .i64 (.lit 0)),(.int .i64 (.lit 0))] [(0,1,(.c (.int .i64 (.lit 0)))),(1,1,(.t 62))]⟩,
 ⟨some 64,false,some (58,true),iCall (.c (.func (.func 43) [] [])) [(.t 60),(.t 63)]⟩,
 ⟨some 65,false,none,iPick (.t 58) (.t 64) (.c (.bool (.lit false)))⟩,
 ⟨some 66,false,none,iMov (.t 65)⟩,
 ⟨some 67,false,some (66,true),iFaddr 22 (.t 1)⟩,
 ⟨some 68,false,some (66,true),iLoad (.t 67)⟩,
 ⟨some 69,false,some (66,true),iCall (.c (.func (.func 61) [] [])) [(.t 68)]⟩,
 ⟨some 70,false,none,iPick (.t 66) (.t 69) (.c (.bool (.lit false)))⟩,
 ⟨some 2,true,none,iMov (.t 70)⟩])
 cRet))),[.t 2]⟩
noncomputable def Tryd.kp43:List Nat:=[0,1,3,4]
noncomputable def Tryd.cf43:CF:=⟨2,(cSeq (cOps [⟨some 3,true,none,iBox 23 (.t 1)⟩,
 ⟨some 4,true,none,iMov (.c (.bool (.lit false)))⟩])
 (cSeq (cOps [⟨some 5,false,none,iFaddr 0 (.t 3)⟩,
 ⟨some 6,false,none,iLoad (.t 5)⟩,
 ⟨some 7,false,none,iMov (.t 0)⟩,
 ⟨some 8,false,none,iCmp .leq (.t 6) (.t 7)⟩,
 ⟨some 9,false,none,iMov (.t 8)⟩,
 ⟨some 10,false,some (9,true),iMov (.t 0)⟩,
 ⟨some 11,false,some (9,true),iFaddr 1 (.t 3)⟩,
 ⟨some 12,false,some (9,true),iLoad (.t 11)⟩,
 ⟨some 13,false,some (9,true),iCmp .leq (.t 10) (.t 12)⟩,
 ⟨some 14,false,none,iPick (.t 9) (.t 13) (.c (.bool (.lit false)))⟩,
 ⟨some 4,true,none,iMov (.t 14)⟩])
 cRet)),[.t 4]⟩
noncomputable def Tryd.kp44:List Nat:=[0,1,2,4,9]
noncomputable def Tryd.cf44:CF:=⟨2,(cSeq (cOps [⟨some 2,true,none,iBox 69 (.t 0)⟩,
 ⟨some 4,true,none,iAlloc 23 [(.int .i64 (.lit 0)),(.int .i64 (.lit 0))]⟩])
 (cSeq (cSeq (cOps [⟨some 5,false,none,iMov (.t 1)⟩,
 ⟨some 6,false,none,iFaddr 0 (.t 2)⟩,
 ⟨some 7,false,none,iFaddr 20 (.t 6)⟩,
 ⟨some 8,false,none,iLoad (.t 7)⟩,
 ⟨some 9,true,none,iCmp .lss (.t 5) (.t 8)⟩])
 (cCond (.t 9) (cSeq (cOps [⟨some 10,false,none,iFaddr 0 (.t 2)⟩,
 ⟨some 11,false,none,iFaddr 18 (.t 10)⟩,
 ⟨some 12,false,none,iLoadN 2 (.t 11)⟩,
 ⟨none,false,none,iStore 2 (.t 4) (.t 12)⟩])
 cRet) cSkip))
 (cSeq (cOps [⟨some 13,false,none,iFaddr 0 (.t 2)⟩,
 ⟨some 14,false,none,iFaddr 16 (.t 13)⟩,
 ⟨some 15,false,none,iLoadN 2 (.t 14)⟩,
 ⟨none,false,none,iStore 2 (.t 4) (.t 15)⟩])
 cRet))),[.cell 4 true 2]⟩
noncomputable def Tryd.kp45:List Nat:=[0,1,2,3,8]
noncomputable def Tryd.cf45:CF:=⟨4,(cSeq (cOps [⟨some 8,true,none,iAlloc 33 [(.int .i64 (.lit 0)),(.int .i64 (.lit 0)),(.bool (.lit false)),(.int .i64 (.lit 0))]⟩])
 (cSeq (cOps [⟨some 9,false,none,iMov (.t 0)⟩,
 ⟨some 10,false,none,iMov (.t 1)⟩,
 ⟨some 11,false,none,iCall (.c (.func (.func 20) [] [])) [(.t 9),(.t 10)]⟩,
 ⟨some 12,false,none,iMov (.t 2)⟩,
 ⟨some 13,false,none,iMov (.t 3)⟩,
 ⟨some 14,false,none,iBuild [(.int .i64 (.lit 0)),(.int .i64 (.lit 0)),(.bool (.lit false)),(.int .i64 (.lit 0))] [(0,2,(.t 11)),(2,1,(.t 12)),(3,1,(.t 13))]⟩,
 ⟨none,false,none,iStore 4 (.t 8) (.t 14)⟩])
 cRet)),[.cell 8 true 4]⟩
noncomputable def Tryd.kp46:List Nat:=[0,1,2,4,5]
noncomputable def Tryd.cf46:CF:=⟨2,(cSeq (cOps [⟨some 2,true,none,iBox 91 (.t 0)⟩,
 ⟨some 4,true,none,iMov (.c (.bool (.lit false)))⟩])
 (cSeq (cOps [⟨some 6,false,none,iFaddr 0 (.t 2)⟩,
 ⟨some 7,false,none,iFaddr 0 (.t 6)⟩,
 ⟨some 8,false,none,iLoadN 23 (.t 7)⟩,
 ⟨some 5,true,none,iAlloc 27 [(.int .i64 (.lit 0)),(.int .i64 (.lit 0)),(.int .i64 (.lit 0)),(.int .i64 (.lit 0)),(.int .i64 (.lit 0)),(.int .i64 (.lit 0)),(.int .i64 (.lit 0)),(.int .i64 (.lit 0)),(.int .i64 (.lit 0)),(.int .i64 (.lit 0)),(.int .i64 (.lit 0)),(.int .i64 (.lit 0)),(.int .i64 (.lit 0)),(.int .i64 (.lit 0)),(.int .i64 (.lit 0)),(.int .i64 (.lit 0)),(.int .i64 (.lit 0)),(.int .i64 (.lit 0)),(.int .i64 (.lit 0)),(.int .i64 (.lit 0)),(.int .i64 (.lit 0)),(.int .i64 (.lit 0)),.nilslice]⟩,
 ⟨none,false,none,iStore 23 (.t 5) (.t 8)⟩])
 (cSeq (cOps [⟨some 9,false,none,iFaddr 22 (.t 5)⟩,
 ⟨some 10,false,none,iLoad (.t 9)⟩,
 ⟨some 11,false,none,iCall (.c (.func (.func 62) [] [])) [(.t 10)]⟩,
 ⟨some 12,false,none,iFaddr 22 (.t 5)⟩,
 ⟨none,false,none,iStore 1 (.t 12) (.t 11)⟩])
 (cSeq (cOps [⟨some 13,false,none,iFaddr 22 (.t 5)⟩,
 ⟨some 14,false,none,iLoad (.t 13)⟩,
 ⟨some 15,false,none,iFaddr 39 (.t 2)⟩,
 ⟨some 16,false,none,iLoad (.t 15)⟩,
 ⟨some 17,false,none,iIaddr 4 (.t 14) (.t 16)⟩,
 ⟨some 18,false,none,iFaddr 0 (.t 17)⟩,
 ⟨some 19,false,none,iFaddr 1 (.t 18)⟩,
 ⟨some 20,false,none,iLoad (.t 19)⟩,
 ⟨some 21,false,none,iMov (.t 1)⟩,
 ⟨some 22,false,none,iArith .add (.t 20) (.t 21)⟩,
 ⟨some 23,false,none,iIaddr 4 (.t 14) (.t 16)⟩,
 ⟨some 24,false,none,iFaddr 0 (.t 23)⟩,
 ⟨some 25,false,none,iFaddr 1 (.t 24)⟩,
 ⟨none,false,none,iStore 1 (.t 25) (.t 22)⟩])
 (cSeq (cOps [⟨some 26,false,none,iLoadN 23 (.t 5)⟩,
 ⟨some 27,false,none,iCall (.c (.func (.func 49) [] [])) [(.t 26)]⟩,
 ⟨some 28,false,none,iCall (.c (.func (.func 54) [] [])) [(.t 27)]⟩,
 ⟨some 4,true,none,iMov (.t 28)⟩])
 cRet))))),[.t 4]⟩
noncomputable def Tryd.kp47:List Nat:=[0,1,4,5,6,7,11,21]
noncomputable def Tryd.cf47:CF:=⟨2,(cSeq (cOps [⟨some 4,true,none,iMov (.c (.int .i64 (.lit 0)))⟩])
 (cSeq (cOps [⟨some 8,false,none,iMov (.t 0)⟩,
 ⟨some 5,true,none,iMov (.c (.int .i64 (.lit 0)))⟩,
 ⟨some 6,true,none,iMov (.t 8)⟩])
 (cSeq (cBlock 0 (cLoop (cSeq (cSeq (cOps [⟨some 9,false,none,iMov (.t 5)⟩,
 ⟨some 10,false,none,iMov (.t 6)⟩,
 ⟨some 11,true,none,iCmp .lss (.t 9) (.t 10)⟩])
 (cCond (.t 11) cSkip (cExit 0)))
 (cBlock 1 (cSeq (cOps [⟨some 12,false,none,iMov (.t 5)⟩,
 ⟨some 13,false,none,iMov (.t 6)⟩,
 ⟨some 14,false,none,iArith .add (.t 12) (.t 13)⟩,
 ⟨some 15,false,none,iConv .u64 (.t 14)⟩,
 ⟨some 16,false,none,iShift .shr (.t 15) (.c (.int .u64 (.lit 1)))⟩,
 ⟨some 17,false,none,iConv .i64 (.t 16)⟩,
 ⟨some 7,true,none,iMov (.t 17)⟩])
 (cSeq (cOps [⟨some 18,false,none,iMov (.t 1)⟩,
 ⟨some 19,false,none,iMov (.t 7)⟩,
 ⟨some 20,false,none,iCall (.t 18) [(.t 19)]⟩,
 ⟨some 21,true,none,iNot (.t 20)⟩])
 (cCond (.t 21) (cOps [⟨some 22,false,none,iMov (.t 7)⟩,
 ⟨some 23,false,none,iArith .add (.t 22) (.c (.int .i64 (.lit 1)))⟩,
 ⟨some 5,true,none,iMov (.t 23)⟩]) (cOps [⟨some 24,false,none,iMov (.t 7)⟩,
 ⟨some 6,true,none,iMov (.t 24)⟩]))))))))
 (cSeq (cOps [⟨some 25,false,none,iMov (.t 5)⟩,
 ⟨some 4,true,none,iMov (.t 25)⟩])
 cRet)))),[.t 4]⟩
noncomputable def Tryd.kp48:List Nat:=[0,1,2,4,5]
noncomputable def Tryd.cf48:CF:=⟨2,(cSeq (cOps [⟨some 2,true,none,iBox 69 (.t 0)⟩,
 ⟨some 4,true,none,iMov (.c (.bool (.lit false)))⟩])
 (cSeq (cOps [⟨some 6,false,none,iFaddr 0 (.t 2)⟩,
 ⟨some 7,false,none,iLoadN 23 (.t 6)⟩,
 ⟨some 5,true,none,iAlloc 27 [(.int .i64 (.lit 0)),(.int .i64 (.lit 0)),(.int .i64 (.lit 0)),(.int .i64 (.lit 0)),(.int .i64 (.lit 0)),(.int .i64 (.lit 0)),(.int .i64 (.lit 0)),(.int .i64 (.lit 0)),(.int .i64 (.lit 0)),(.int .i64 (.lit 0)),(.int .i64 (.lit 0)),(.int .i64 (.lit 0)),(.int .i64 (.lit 0)),(.int .i64 (.lit 0)),(.int .i64 (.lit 0)),(.int .i64 (.lit 0)),(.int .i64 (.lit 0)),(.int .i64 (.lit 0)),(.int .i64 (.lit 0)),(.int .i64 (.lit 0)),(.int .i64 (.lit 0)),(.int .i64 (.lit 0)),.nilslice]⟩,
 ⟨none,false,none,iStore 23 (.t 5) (.t 7)⟩])
 (cSeq (cOps [⟨some 8,false,none,iMov (.t 1)⟩,
 ⟨some 9,false,none,iMov (.t 1)⟩,
 ⟨some 10,false,none,iBuild [(.int .i64 (.lit 0)),(.int .i64 (.lit 0))] [(0,1,(.t 8)),(1,1,(.t 9))]⟩,
 ⟨some 11,false,none,iFaddr 0 (.t 5)⟩,
 ⟨none,false,none,iStore 2 (.t 11) (.t 10)⟩])
 (cSeq (cOps [⟨some 12,false,none,iLoadN 23 (.t 5)⟩,
 ⟨some 13,false,none,iCall (.c (.func (.func 49) [] [])) [(.t 12)]⟩,
 ⟨some 14,false,none,iCall (.c (.func (.func 54) [] [])) [(.t 13)]⟩,
 ⟨some 4,true,none,iMov (.t 14)⟩])
 cRet)))),[.t 4]⟩
noncomputable def Tryd.kp49:List Nat:=[0,1,2,3,4,5,8,9,10]
noncomputable def Tryd.cf49:CF:=⟨1,(cSeq (cOps [⟨some 1,true,none,iBox 27 (.t 0)⟩,
 ⟨some 2,true,none,iAlloc 69 [(.int .i64 (.lit 0)),(.int .i64 (.lit 0)),(.int .i64 (.lit 0)),(.int .i64 (.lit 0)),(.int .i64 (.lit 0)),(.int .i64 (.lit 0)),(.int .i64 (.lit 0)),(.int .i64 (.lit 0)),(.int .i64 (.lit 0)),(.int .i64 (.lit 0)),(.int .i64 (.lit 0)),(.int .i64 (.lit 0)),(.int .i64 (.lit 0)),(.int .i64 (.lit 0)),(.int .i64 (.lit 0)),(.int .i64 (.lit 0)),(.int .i64 (.lit 0)),(.int .i64 (.lit 0)),(.int .i64 (.lit 0)),(.int .i64 (.lit 0)),(.int .i64 (.lit 0)),(.int .i64 (.lit 0)),.nilslice,(.int .i64 (.lit 0)),(.int .i64 (.lit 0)),(.int .i64 (.lit 0)),(.int .i64 (.lit 0)),(.int .i64 (.lit 0)),(.int .i64 (.lit 0)),(.int .i64 (.lit 0)),(.int .i64 (.lit 0)),(.int .i64 (.lit 0)),(.int .i64 (.lit 0)),(.int .i64 (.lit 0)),(.int .i64 (.lit 0)),(.int .i64 (.lit 0)),(.int .i64 (.lit 0)),(.int .i64 (.lit 0)),(.int .i64 (.lit 0))]⟩])
 (cSeq (cOps [⟨some 6,false,none,iLoadN 23 (.t 1)⟩,
 ⟨some 7,false,none,iBuild [(.int .i64 (.lit 0)),(.int .i64 (.lit 0)),(.int .i64 (.lit 0)),(.int .i64 (.lit 0)),(.int .i64 (.lit 0)),(.int .i64 (.lit 0)),(.int .i64 (.lit 0)),(.int .i64 (.lit 0)),(.int .i64 (.lit 0)),(.int .i64 (.lit 0)),(.int .i64 (.lit 0)),(.int .i64 (.lit 0)),(.int .i64 (.lit 0)),(.int .i64 (.lit 0)),(.int .i64 (.lit 0)),(.int .i64 (.lit 0)),(.int .i64 (.lit 0)),(.int .i64 (.lit 0)),(.int .i64 (.lit 0)),(.int .i64 (.lit 0)),(.int .i64 (.lit 0)),(.int .i64 (.lit 0)),.nilslice,(.int .i64 (.lit 0)),(.int .i64 (.lit 0)),(.int .i64 (.lit 0)),(.int .i64 (.lit 0)),(.int .i64 (.lit 0)),(.int .i64 (.lit 0)),(.int .i64 (.lit 0)),(.int .i64 (.lit 0)),(.int .i64 (.lit 0)),(.int .i64 (.lit 0)),(.int .i64 (.lit 0)),(.int .i64 (.lit 0)),(.int .i64 (.lit 0)),(.int .i64 (.lit 0)),(.int .i64 (.lit 0)),(.int .i64 (.lit 0))] [(0,23,(.t 6))]⟩,
 ⟨some 3,true,none,iAlloc 69 [(.int .i64 (.lit 0)),(.int .i64 (.lit 0)),(.int .i64 (.lit 0)),(.int .i64 (.lit 0)),(.int .i64 (.lit 0)),(.int .i64 (.lit 0)),(.int .i64 (.lit 0)),(.int .i64 (.lit 0)),(.int .i64 (.lit 0)),(.int .i64 (.lit 0)),(.int .i64 (.lit 0)),(.int .i64 (.lit 0)),(.int .i64 (.lit 0)),(.int .i64 (.lit 0)),(.int .i64 (.lit 0)),(.int .i64 (.lit 0)),(.int .i64 (.lit 0)),(.int .i64 (.lit 0)),(.int .i64 (.lit 0)),(.int .i64 (.lit 0)),(.int .i64 (.lit 0)),(.int .i64 (.lit 0)),.nilslice,(.int .i64 (.lit 0)),(.int .i64 (.lit 0)),(.int .i64 (.lit 0)),(.int .i64 (.lit 0)),(.int .i64 (.lit 0)),(.int .i64 (.lit 0)),(.int .i64 (.lit 0)),(.int .i64 (.lit 0)),(.int .i64 (.lit 0)),(.int .i64 (.lit 0)),(.int .i64 (.lit 0)),(.int .i64 (.lit 0)),(.int .i64 (.lit 0)),(.int .i64 (.lit 0)),(.int .i64 (.lit 0)),(.int .i64 (.lit 0))]⟩,
 ⟨none,false,none,iStore 39 (.t 3) (.t 7)⟩])
 (cSeq (cSeq (cOps [⟨some 8,true,none,iBuild [.nilFunc,.nilFunc] [(0,1,(.c (.func (.func 63) [] []))),(1,1,(.c (.func (.func 64) [] [])))]⟩,
 ⟨some 9,true,none,iMov (.c (.int .i64 (.lit 0)))⟩])
 (cBlock 0 (cLoop (cSeq (cOps [⟨some 10,true,none,iCmp .lss (.t 9) (.c (.int .i64 (.lit 2)))⟩])
 (cSeq (cCond (.t 10) cSkip (cExit 0))
 (cSeq (cBlock 1 (cSeq (cOps [⟨some 11,false,none,iMov (.t 9)⟩,
 ⟨some 12,false,none,iIndex false 1 2 (.t 8) (.t 9)⟩,
 ⟨some 4,true,none,iMov (.t 11)⟩,
 ⟨some 5,true,none,iMov (.t 12)⟩])
 (cOps [⟨some 13,false,none,iMov (.t 4)⟩,
 ⟨some 14,false,none,iMov (.t 5)⟩,
 ⟨some 15,false,none,iLoadN 39 (.t 3)⟩,
 ⟨some 16,false,none,iCall (.t 14) [(.t 15)]⟩,
 ⟨some 17,false,none,iFaddr 23 (.t 3)⟩,
 ⟨some 18,false,none,iIaddrA 8 2 (.t 17) (.t 13)⟩,
 ⟨none,false,none,iStore 8 (.t 18) (.t 16)⟩])))
 (cOps [⟨some 19,false,none,iArith .add (.t 9) (.c (.int .i64 (.lit 1)))⟩,
 ⟨some 9,true,none,iMov (.t 19)⟩])))))))
 (cSeq (cOps [⟨some 20,false,none,iLoadN 39 (.t 3)⟩,
 ⟨none,false,none,iStore 39 (.t 2) (.t 20)⟩])
 cRet)))),[.cell 2 true 39]⟩
noncomputable def Tryd.kp50:List Nat:=[0,1]
noncomputable def Tryd.cf50:CF:=⟨0,(cSeq (cOps [⟨some 0,true,none,iAlloc 95 [.nilFunc,.nilFunc]⟩,
 ⟨some 1,true,none,iAlloc 95 [.nilFunc,.nilFunc]⟩])
 (cSeq (cOps [⟨some 2,false,none,iBuild [.nilFunc,.nilFunc] [(0,1,(.c (.func (.func 65) [] []))),(1,1,(.c (.func (.func 66) [] [])))]⟩,
 ⟨some 3,false,none,iBuild [.nilFunc,.nilFunc] [(0,1,(.c (.func (.func 66) [] []))),(1,1,(.c (.func (.func 65) [] [])))]⟩,
 ⟨none,false,none,iStore 2 (.t 0) (.t 2)⟩,
 ⟨none,false,none,iStore 2 (.t 1) (.t 3)⟩])
 cRet)),[.cell 0 true 2,.cell 1 true 2]⟩
noncomputable def Tryd.kp51:List Nat:=[0,1,2,3,5,6]
noncomputable def Tryd.cf51:CF:=⟨1,(cSeq (cOps [⟨some 1,true,none,iBox 69 (.t 0)⟩,
 ⟨some 2,true,none,iMov (.c .nilmap)⟩])
 (cSeq (cOps [⟨some 8,false,none,iCall (.c (.func (.func 50) [] [])) []⟩,
 ⟨some 7,false,none,iMov (.t 8)⟩,
 ⟨some 9,false,none,iExtract 0 (.t 7)⟩,
 ⟨some 10,false,none,iExtract 1 (.t 7)⟩,
 ⟨some 3,true,none,iAlloc 95 [.nilFunc,.nilFunc]⟩,
 ⟨some 4,false,none,iAlloc 95 [.nilFunc,.nilFunc]⟩,
 ⟨none,false,none,iStore 2 (.t 3) (.t 9)⟩,
 ⟨none,false,none,iStore 2 (.t 4) (.t 10)⟩])
 (cSeq (cOps [⟨some 11,false,none,iMkmap⟩,
 ⟨some 5,true,none,iAlloc 98 [.nilmap]⟩,
 ⟨none,false,none,iStore 1 (.t 5) (.t 11)⟩])
 (cSeq (cOps [⟨some 6,true,none,iAlloc 125 [.nilFunc]⟩])
 (cSeq (cOps [⟨some 12,false,none,iFunc (.func 67) [] [(.t 5),(.t 1),(.t 3),(.t 6)]⟩,
 ⟨none,false,none,iStore 1 (.t 6) (.t 12)⟩])
 (cSeq (dOps 0 [⟨⟨some 13,false,none,iLoad (.t 6)⟩,[6],false,0,1,none,[]⟩,
 ⟨⟨some 14,false,none,iLoadN 39 (.t 1)⟩,[1],false,0,0,none,[]⟩,
 ⟨⟨some 15,false,none,iLoadN 2 (.t 3)⟩,[3],false,0,0,none,[]⟩,
 ⟨⟨some 16,false,none,iCall (.c (.func (.func 52) [] [])) [(.t 14),(.t 15)]⟩,[14,15],true,0,0,none,[]⟩,
 ⟨⟨some 17,false,none,iCall (.t 13) [(.t 16)]⟩,[13,16],true,1,0,none,[]⟩])
 (cSeq (cOps [⟨some 18,false,none,iLoad (.t 5)⟩,
 ⟨some 2,true,none,iMov (.t 18)⟩])
 cRet))))))),[.t 2]⟩
noncomputable def Tryd.kp52:List Nat:=[0,1,2,3,4,5,6,7,9,10,11]
noncomputable def Tryd.cf52:CF:=⟨2,(cSeq (cOps [⟨some 2,true,none,iBox 69 (.t 0)⟩,
 ⟨some 3,true,none,iBox 95 (.t 1)⟩,
 ⟨some 4,true,none,iAlloc 102 [(.int .i64 (.lit 0)),(.int .i64 (.lit 0)),(.int .i64 (.lit 0))]⟩])
 (cSeq (cOps [⟨some 5,true,none,iAlloc 102 [(.int .i64 (.lit 0)),(.int .i64 (.lit 0)),(.int .i64 (.lit 0))]⟩])
 (cSeq (cSeq (cOps [⟨some 8,false,none,iFaddr 23 (.t 2)⟩,
 ⟨some 9,true,none,iLoadN 16 (.t 8)⟩,
 ⟨some 10,true,none,iMov (.c (.int .i64 (.lit 0)))⟩])
 (cBlock 0 (cLoop (cSeq (cOps [⟨some 11,true,none,iCmp .lss (.t 10) (.c (.int .i64 (.lit 2)))⟩])
 (cSeq (cCond (.t 11) cSkip (cExit 0))
 (cSeq (cBlock 1 (cSeq (cOps [⟨some 12,false,none,iMov (.t 10)⟩,
 ⟨some 13,false,none,iIndex true 8 2 (.t 9) (.t 10)⟩,
 ⟨some 7,true,none,iAlloc 66 [(.int .i64 (.lit 0)),(.int .i64 (.lit 0)),(.int .i64 (.lit 0)),(.int .i64 (.lit 0)),(.int .i64 (.lit 0)),(.int .i64 (.lit 0)),(.int .i64 (.lit 0)),(.int .i64 (.lit 0))]⟩,
 ⟨some 6,true,none,iMov (.t 12)⟩,
 ⟨none,false,none,iStore 8 (.t 7) (.t 13)⟩])
 (cOps [⟨some 14,false,none,iMov (.t 6)⟩,
 ⟨some 15,false,none,iFaddr 0 (.t 3)⟩,
 ⟨some 16,false,none,iLoad (.t 15)⟩,
 ⟨some 17,false,none,iFaddr 0 (.t 7)⟩,
 ⟨some 18,false,none,iLoadN 2 (.t 17)⟩,
 ⟨some 19,false,none,iCall (.t 16) [(.t 18)]⟩,
 ⟨some 20,false,none,iFaddr 1 (.t 5)⟩,
 ⟨some 21,false,none,iIaddrA 1 2 (.t 20) (.t 14)⟩,
 ⟨none,false,none,iStore 1 (.t 21) (.t 19)⟩])))
 (cOps [⟨some 22,false,none,iArith .add (.t 10) (.c (.int .i64 (.lit 1)))⟩,
 ⟨some 10,true,none,iMov (.t 22)⟩])))))))
 (cSeq (cOps [⟨some 23,false,none,iLoadN 3 (.t 5)⟩,
 ⟨none,false,none,iStore 3 (.t 4) (.t 23)⟩])
 cRet)))),[.cell 4 true 3]⟩
noncomputable def Tryd.kp53:List Nat:=[0,1,3]
noncomputable def Tryd.cf53:CF:=⟨2,(cSeq (cOps [⟨some 3,true,none,iMov (.c (.bool (.lit false)))⟩])
 (cSeq (cOps [⟨some 4,false,none,iLoad (.t 1)⟩,
 ⟨some 5,false,none,iMov (.t 0)⟩,
 ⟨some 6,false,none,iCall (.t 4) [(.t 5)]⟩,
 ⟨some 7,false,none,iNot (.t 6)⟩,
 ⟨some 3,true,none,iMov (.t 7)⟩])
 cRet)),[.t 3]⟩
noncomputable def Tryd.kp54:List Nat:=[0,1,2,3]
noncomputable def Tryd.cf54:CF:=⟨1,(cSeq (cOps [⟨some 1,true,none,iBox 69 (.t 0)⟩,
 ⟨some 2,true,none,iMov (.c (.bool (.lit false)))⟩])
 (cSeq (cOps [⟨some 6,false,none,iCall (.c (.func (.func 50) [] [])) []⟩,
 ⟨some 5,false,none,iMov (.t 6)⟩,
 ⟨some 7,false,none,iExtract 0 (.t 5)⟩,
 ⟨some 8,false,none,iExtract 1 (.t 5)⟩,
 ⟨some 3,true,none,iAlloc 95 [.nilFunc,.nilFunc]⟩,
 ⟨some 4,false,none,iAlloc 95 [.nilFunc,.nilFunc]⟩,
 ⟨none,false,none,iStore 2 (.t 3) (.t 7)⟩,
 ⟨none,false,none,iStore 2 (.t 4) (.t 8)⟩])
 (cSeq (dOps 0 [⟨⟨some 9,false,none,iLoadN 39 (.t 1)⟩,[1],false,0,0,none,[]⟩,
 ⟨⟨some 10,false,none,iCall (.c (.func (.func 51) [] [])) [(.t 9)]⟩,[9],true,0,0,none,[]⟩,
 ⟨⟨some 11,false,none,iLoadN 39 (.t 1)⟩,[1],false,0,1,none,[]⟩,
 ⟨⟨some 12,false,none,iLoadN 2 (.t 3)⟩,[3],false,0,1,none,[]⟩,
 ⟨⟨some 13,false,none,iCall (.c (.func (.func 52) [] [])) [(.t 11),(.t 12)]⟩,[11,12],true,1,0,none,[]⟩,
 ⟨⟨some 14,false,none,iLookup (.agg [(.bool (.lit false)),(.int .i64 (.lit 0)),(.int .i64 (.lit 0)),(.int .i64 (.lit 0)),(.int .i64 (.lit 0)),(.int .i64 (.lit 0)),(.int .i64 (.lit 0)),(.int .i64 (.lit 0)),(.int .i64 (.lit 0))]) true 3 [(0,.int),(1,.int),(2,.int)] false (.t 10) (.t 13)⟩,[10,13],false,2,2,none,[]⟩,
 ⟨⟨some 15,false,none,iField false 0 1 (.t 14)⟩,[14],false,2,2,none,[]⟩,
 ⟨⟨some 2,true,none,iMov (.t 15)⟩,[15],false,2,2,none,[]⟩])
 cRet))),[.t 2]⟩
noncomputable def Tryd.kp56:List Nat:=[0,1,2,3,4,5,6]
noncomputable def Tryd.cf56:CF:=⟨3,(cSeq (cOps [⟨some 3,true,none,iBox 69 (.t 0)⟩,
 ⟨some 4,true,none,iBox 34 (.t 1)⟩,
 ⟨some 5,true,none,iBox 95 (.t 2)⟩,
 ⟨some 6,true,none,iMov (.c .nilFunc)⟩])
 (cSeq (cOps [⟨some 7,false,none,iFunc (.func 70) [] [(.t 3),(.t 5),(.t 4)]⟩,
 ⟨some 6,true,none,iMov (.t 7)⟩])
 cRet)),[.t 6]⟩
noncomputable def Tryd.kp57:List Nat:=[0,1,2,3,4,5,7]
noncomputable def Tryd.cf57:CF:=⟨2,(cSeq (cOps [⟨some 2,true,none,iBox 69 (.t 0)⟩,
 ⟨some 3,true,none,iBox 105 (.t 1)⟩,
 ⟨some 4,true,none,iMov (.c (.bool (.lit false)))⟩])
 (cSeq (cSeq (cOps [⟨some 6,false,none,iLoadN 7 (.t 3)⟩,
 ⟨some 7,true,none,iCall (.c (.func (.func 58) [] [])) [(.t 6)]⟩])
 (cCond (.t 7) (cSeq (cOps [⟨some 4,true,none,iMov (.c (.bool (.lit true)))⟩])
 cRet) cSkip))
 (cSeq (cOps [⟨some 8,false,none,iFaddr 0 (.t 2)⟩,
 ⟨some 9,false,none,iFaddr 22 (.t 8)⟩,
 ⟨some 10,false,none,iLoad (.t 9)⟩,
 ⟨some 11,false,none,iFaddr 2 (.t 3)⟩,
 ⟨some 12,false,none,iFaddr 0 (.t 11)⟩,
 ⟨some 13,false,none,iLoad (.t 12)⟩,
 ⟨some 14,false,none,iArith .sub (.t 13) (.c (.int .i64 (.lit 1)))⟩,
 ⟨some 15,false,none,iIaddr 4 (.t 10) (.t 14)⟩,
 ⟨some 16,false,none,iLoadN 4 (.t 15)⟩,
 ⟨some 5,true,none,iAlloc 33 [(.int .i64 (.lit 0)),(.int .i64 (.lit 0)),(.bool (.lit false)),(.int .i64 (.lit 0))]⟩,
 ⟨none,false,none,iStore 4 (.t 5) (.t 16)⟩])
 (cSeq (dOps 0 [⟨⟨some 17,false,none,iFaddr 2 (.t 5)⟩,[5],false,0,0,none,[]⟩,
 ⟨⟨some 18,false,none,iLoad (.t 17)⟩,[17],false,0,0,none,[]⟩,
 ⟨⟨some 19,false,none,iMov (.t 18)⟩,[18],false,0,0,none,[]⟩,
 ⟨⟨some 20,false,some (19,true),iLoadN 39 (.t 2)⟩,[19,2],false,0,0,none,[]⟩,
 ⟨⟨some 21,false,some (19,true),iFaddr 2 (.t 3)⟩,[19,3],false,0,0,none,[]⟩,
 ⟨⟨some 22,false,some (19,true),iFaddr 1 (.t 21)⟩,[19,21],false,0,0,none,[]⟩,
 ⟨⟨some 23,false,some (19,true),iIaddrA 1 2 (.t 22) (.c (.int .i64 (.lit 1)))⟩,[19,22],false,0,0,none,[]⟩,
 ⟨⟨some 24,false,some (19,true),iLoad (.t 23)⟩,[19,23],false,0,0,none,[]⟩,
 ⟨⟨some 25,false,some (19,true),iCall (.c (.func (.func 44) [] [])) [(.t 20),(.t 24)]⟩,[19,20,24],true,0,0,none,[]⟩,
 ⟨⟨some 26,false,some (19,true),iField false 0 1 (.t 25)⟩,[19,25],false,1,1,none,[]⟩,
 ⟨⟨some 27,false,some (19,true),iFaddr 0 (.t 2)⟩,[19,2],false,0,1,none,[]⟩,
 ⟨⟨some 28,false,some (19,true),iFaddr 21 (.t 27)⟩,[19,27],false,0,1,none,[]⟩,
 ⟨⟨some 29,false,some (19,true),iLoad (.t 28)⟩,[19,28],false,0,1,none,[]⟩,
 ⟨⟨some 30,false,some (19,true),iCmp .lss (.t 26) (.t 29)⟩,[19,26,29],false,1,1,none,[]⟩,
 ⟨⟨some 31,false,none,iPick (.t 19) (.t 30) (.c (.bool (.lit false)))⟩,[19,30],false,1,1,none,[]⟩,
 ⟨⟨some 4,true,none,iMov (.t 31)⟩,[31],false,1,1,none,[]⟩])
 cRet)))),[.t 4]⟩
noncomputable def Tryd.kp58:List Nat:=[0,1,2]
noncomputable def Tryd.cf58:CF:=⟨1,(cSeq (cOps [⟨some 1,true,none,iBox 105 (.t 0)⟩,
 ⟨some 2,true,none,iMov (.c (.bool (.lit false)))⟩])
 (cSeq (cOps [⟨some 3,false,none,iFaddr 5 (.t 1)⟩,
 ⟨some 4,false,none,iLoadN 2 (.t 3)⟩,
 ⟨some 5,false,none,iBuild [(.int .i64 (.lit 0)),(.int .i64 (.lit 0))] []⟩,
 ⟨some 6,false,none,iEq true true 2 [(0,.int),(1,.int)] (.t 4) (.t 5)⟩,
 ⟨some 2,true,none,iMov (.t 6)⟩])
 cRet)),[.t 2]⟩
noncomputable def Tryd.kp59:List Nat:=[0,1,4,6,7,8,9,10,17]
noncomputable def Tryd.cf59:CF:=⟨2,(cSeq (cOps [⟨some 4,true,none,iMov (.c (.bool (.lit false)))⟩])
 (cSeq (cSeq (cOps [⟨some 7,true,none,iMov (.t 1)⟩,
 ⟨some 8,true,none,iLenS (.t 7)⟩,
 ⟨some 9,true,none,iMov (.c (.int .i64 (.lit 0)))⟩])
 (cBlock 0 (cLoop (cSeq (cOps [⟨some 10,true,none,iCmp .lss (.t 9) (.t 8)⟩])
 (cSeq (cCond (.t 10) cSkip (cExit 0))
 (cSeq (cBlock 1 (cSeq (cOps [⟨some 11,false,none,iIaddr 2 (.t 7) (.t 9)⟩,
 ⟨some 12,false,none,iLoadN 2 (.t 11)⟩,
 ⟨some 6,true,none,iAlloc 23 [(.int .i64 (.lit 0)),(.int .i64 (.lit 0))]⟩,
 ⟨none,false,none,iStore 2 (.t 6) (.t 12)⟩])
 (cSeq (cOps [⟨some 13,false,none,iLoadN 2 (.t 6)⟩,
 ⟨some 14,false,none,iMov (.t 0)⟩,
 ⟨some 15,false,none,iBuild [(.int .i64 (.lit 0)),(.int .i64 (.lit 0))] [(0,1,(.c (.int .i64 (.lit 0)))),(1,1,(.t 14))]⟩,
 ⟨some 16,false,none,iCall (.c (.func (.func 72) [] [])) [(.t 13),(.t 15)]⟩,
 ⟨some 17,true,none,iNot (.t 16)⟩])
 (cCond (.t 17) (cSeq (cOps [⟨some 4,true,none,iMov (.c (.bool (.lit false)))⟩])
 cRet) cSkip))))
 (cOps [⟨some 18,false,none,iArith .add (.t 9) (.c (.int .i64 (.lit 1)))⟩,
 ⟨some 9,true,none,iMov (.t 18)⟩])))))))
 (cSeq (cOps [⟨some 4,true,none,iMov (.c (.bool (.lit true)))⟩])
 cRet))),[.t 4]⟩
noncomputable def Tryd.kp60:List Nat:=[0,1,2]
noncomputable def Tryd.cf60:CF:=⟨1,(cSeq (cOps [⟨some 1,true,none,iBox 27 (.t 0)⟩,
 ⟨some 2,true,none,iMov (.c (.bool (.lit false)))⟩])
 (cSeq (cOps [⟨some 3,false,none,iFaddr 16 (.t 1)⟩,
 ⟨some 4,false,none,iLoadN 2 (.t 3)⟩,
 ⟨some 5,false,none,iFaddr 18 (.t 1)⟩,
 ⟨some 6,false,none,iLoadN 2 (.t 5)⟩,
 ⟨some 7,false,none,iBslice 23 [(.int .i64 (.lit 0)),(.int .i64 (.lit 0))] 2 [(0,2,(.t 4)),(2,2,(.t 6))]⟩,
 ⟨some 8,false,none,iCall (.c (.func (.func 59) [] [])) [(.c (.int .i64 (.lit 60))),(.t 7)]⟩,
 ⟨some 9,false,none,iMov (.t 8)⟩,
 ⟨some 10,false,some (9,true),iFaddr 18 (.t 1)⟩,
 ⟨some 11,false,some (9,true),iFaddr 0 (.t 10)⟩,
 ⟨some 12,false,some (9,true),iLoad (.t 11)⟩,
 ⟨some 13,false,some (9,true),iFaddr 16 (.t 1)⟩,
 ⟨some 14,false,some (9,true),iFaddr 0 (.t 13)⟩,
 ⟨some 15,false,some (9,true),iLoad (.t 14)⟩,
 ⟨some 16,false,some (9,true),iCmp .leq (.t 12) (.t 15)⟩,
 ⟨some 17,false,none,iPick (.t 9) (.t 16) (.c (.bool (.lit false)))⟩,
 ⟨some 18,false,none,iMov (.t 17)⟩,
 ⟨some 19,false,some (18,true),iFaddr 18 (.t 1)⟩,
 ⟨some 20,false,some (18,true),iFaddr 1 (.t 19)⟩,
 ⟨some 21,false,some (18,true),iLoad (.t 20)⟩,
 ⟨some 22,false,some (18,true),iFaddr 16 (.t 1)⟩,
 ⟨some 23,false,some (18,true),iFaddr 1 (.t 22)⟩,
 ⟨some 24,false,some (18,true),iLoad (.t 23)⟩,
 ⟨some 25,false,some (18,true),iCmp .leq (.t 21) (.t 24)⟩,
 ⟨some 26,false,none,iPick (.t 18) (.t 25) (.c (.bool (.lit false)))⟩,
 ⟨some 2,true,none,iMov (.t 26)⟩])
 cRet)),[.t 2]⟩
noncomputable def Tryd.kp61:List Nat:=[0,2,4,5,6,7,8,22]
noncomputable def Tryd.cf61:CF:=⟨1,(cSeq (cOps [⟨some 2,true,none,iMov (.c (.bool (.lit false)))⟩])
 (cSeq (cSeq (cOps [⟨some 5,true,none,iMov (.t 0)⟩,
 ⟨some 6,true,none,iLenS (.t 5)⟩,
 ⟨some 7,true,none,iMov (.c (.int .i64 (.lit 0)))⟩])
 (cBlock 0 (cLoop (cSeq (cOps [⟨some 8,true,none,iCmp .lss (.t 7) (.t 6)⟩])
 (cSeq (cCond (.t 8) cSkip (cExit 0))
 (cSeq (cBlock 1 (cSeq (cOps [⟨some 9,false,none,iIaddr 4 (.t 5) (.t 7)⟩,
 ⟨some 10,false,none,iLoadN 4 (.t 9)⟩,
 ⟨some 4,true,none,iAlloc 33 [(.int .i64 (.lit 0)),(.int .i64 (.lit 0)),(.bool (.lit false)),(.int .i64 (.lit 0))]⟩,
 ⟨none,false,none,iStore 4 (.t 4) (.t 10)⟩])
 (cSeq (cOps [⟨some 11,false,none,iFaddr 0 (.t 4)⟩,
 ⟨some 12,false,none,iLoadN 2 (.t 11)⟩,
 ⟨some 13,false,none,iBuild [(.int .i64 (.lit 0)),(.int .i64 (.lit 0))] [(0,1,(.c (.int .i64 (.lit 1)))),(1,1,(.c (.int .i64 (.lit 60))))]⟩,
 ⟨some 14,false,none,iCall (.c (.func (.func 72) [] [])) [(.t 12),(.t 13)]⟩,
 ⟨some 15,false,none,iNot (.t 14)⟩,
 ⟨some 16,false,none,iMov (.t 15)⟩,
 ⟨some 17,false,some (16,false),iFaddr 3 (.t 4)⟩,
 ⟨some 18,false,some (16,false),iLoad (.t 17)⟩,
 ⟨some 19,false,some (16,false),iBuild [(.int .i64 (.lit 0)),(.int .i64 (.lit 0))] [(0,1,(.c (.int .i64 (.lit 0)))),(1,1,(.c (.int .i64 (.lit 5))))]⟩,
 ⟨some 20,false,some (16,false),iCall (.c (.func (.func 43) [] [])) [(.t 18),(.t 19)]⟩,
 ⟨some 21,false,some (16,false),iNot (.t 20)⟩,
 ⟨some 22,true,none,iPick (.t 16) (.c (.bool (.lit true))) (.t 21)⟩])
 (cCond (.t 22) (cSeq (cOps [⟨some 2,true,none,iMov (.c (.bool (.lit false)))⟩])
 cRet) cSkip))))
 (cOps [⟨some 23,false,none,iArith .add (.t 7) (.c (.int .i64 (.lit 1)))⟩,
 ⟨some 7,true,none,iMov (.t 23)⟩])))))))
 (cSeq (cOps [⟨some 2,true,none,iMov (.c (.bool (.lit true)))⟩])
 cRet))),[.t 2]⟩
noncomputable def Tryd.kp62:List Nat:=[0,2,4]
noncomputable def Tryd.cf62:CF:=⟨1,(cSeq (cOps [⟨some 2,true,none,iMov (.c .nilslice)⟩])
 (cSeq (cSeq (cOps [⟨some 3,false,none,iMov (.t 0)⟩,
 ⟨some 4,true,none,iEq false false 1 [(0,.nilS)] (.t 3) (.c .nilslice)⟩])
 (cCond (.t 4) (cSeq (cOps [⟨some 2,true,none,iMov (.c .nilslice)⟩])
 cRet) cSkip))
 (cSeq (cOps [⟨some 5,false,none,iBslice 33 [(.int .i64 (.lit 0)),(.int .i64 (.lit 0)),(.bool (.lit false)),(.int .i64 (.lit 0))] 0 []⟩,
 ⟨some 6,false,none,iMov (.t 0)⟩,
 ⟨some 7,false,none,iAppend 33 4 32 (.t 5) (.t 6)⟩,
 ⟨some 2,true,none,iMov (.t 7)⟩])
 cRet))),[.t 2]⟩
noncomputable def Tryd.kp63:List Nat:=[0,1,2]
noncomputable def Tryd.cf63:CF:=⟨1,(cSeq (cOps [⟨some 1,true,none,iBox 69 (.t 0)⟩,
 ⟨some 2,true,none,iAlloc 66 [(.int .i64 (.lit 0)),(.int .i64 (.lit 0)),(.int .i64 (.lit 0)),(.int .i64 (.lit 0)),(.int .i64 (.lit 0)),(.int .i64 (.lit 0)),(.int .i64 (.lit 0)),(.int .i64 (.lit 0))]⟩])
 (cSeq (cOps [⟨some 3,false,none,iFaddr 0 (.t 1)⟩,
 ⟨some 4,false,none,iFaddr 0 (.t 3)⟩,
 ⟨some 5,false,none,iLoadN 2 (.t 4)⟩,
 ⟨some 6,false,none,iFaddr 0 (.t 1)⟩,
 ⟨some 7,false,none,iFaddr 4 (.t 6)⟩,
 ⟨some 8,false,none,iLoad (.t 7)⟩,
 ⟨some 9,false,none,iFaddr 0 (.t 1)⟩,
 ⟨some 10,false,none,iFaddr 6 (.t 9)⟩,
 ⟨some 11,false,none,iLoad (.t 10)⟩,
 ⟨some 12,false,none,iFaddr 0 (.t 1)⟩,
 ⟨some 13,false,none,iFaddr 8 (.t 12)⟩,
 ⟨some 14,false,none,iLoadN 4 (.t 13)⟩,
 ⟨some 15,false,none,iBuild [(.int .i64 (.lit 0)),(.int .i64 (.lit 0)),(.int .i64 (.lit 0)),(.int .i64 (.lit 0)),(.int .i64 (.lit 0)),(.int .i64 (.lit 0)),(.int .i64 (.lit 0)),(.int .i64 (.lit 0))] [(0,2,(.t 5)),(2,1,(.t 8)),(3,1,(.t 11)),(4,4,(.t 14))]⟩,
 ⟨none,false,none,iStore 8 (.t 2) (.t 15)⟩])
 cRet)),[.cell 2 true 8]⟩
noncomputable def Tryd.kp64:List Nat:=[0,1,2]
noncomputable def Tryd.cf64:CF:=⟨1,(cSeq (cOps [⟨some 1,true,none,iBox 69 (.t 0)⟩,
 ⟨some 2,true,none,iAlloc 66 [(.int .i64 (.lit 0)),(.int .i64 (.lit 0)),(.int .i64 (.lit 0)),(.int .i64 (.lit 0)),(.int .i64 (.lit 0)),(.int .i64 (.lit 0)),(.int .i64 (.lit 0)),(.int .i64 (.lit 0))]⟩])
 (cSeq (cOps [⟨some 3,false,none,iFaddr 0 (.t 1)⟩,
 ⟨some 4,false,none,iFaddr 2 (.t 3)⟩,
 ⟨some 5,false,none,iLoadN 2 (.t 4)⟩,
 ⟨some 6,false,none,iFaddr 0 (.t 1)⟩,
 ⟨some 7,false,none,iFaddr 5 (.t 6)⟩,
 ⟨some 8,false,none,iLoad (.t 7)⟩,
 ⟨some 9,false,none,iFaddr 0 (.t 1)⟩,
 ⟨some 10,false,none,iFaddr 7 (.t 9)⟩,
 ⟨some 11,false,none,iLoad (.t 10)⟩,
 ⟨some 12,false,none,iFaddr 0 (.t 1)⟩,
 ⟨some 13,false,none,iFaddr 12 (.t 12)⟩,
 ⟨some 14,false,none,iLoadN 4 (.t 13)⟩,
 ⟨some 15,false,none,iBuild [(.int .i64 (.lit 0)),(.int .i64 (.lit 0)),(.int .i64 (.lit 0)),(.int .i64 (.lit 0)),(.int .i64 (.lit 0)),(.int .i64 (.lit 0)),(.int .i64 (.lit 0)),(.int .i64 (.lit 0))] [(0,2,(.t 5)),(2,1,(.t 8)),(3,1,(.t 11)),(4,4,(.t 14))]⟩,
 ⟨none,false,none,iStore 8 (.t 2) (.t 15)⟩])
 cRet)),[.cell 2 true 8]⟩
noncomputable def Tryd.kp65:List Nat:=[0,1,2]
noncomputable def Tryd.cf65:CF:=⟨1,(cSeq (cOps [⟨some 1,true,none,iBox 124 (.t 0)⟩,
 ⟨some 2,true,none,iMov (.c (.int .i64 (.lit 0)))⟩])
 (cSeq (cOps [⟨some 3,false,none,iFaddr 0 (.t 1)⟩,
 ⟨some 4,false,none,iLoad (.t 3)⟩,
 ⟨some 2,true,none,iMov (.t 4)⟩])
 cRet)),[.t 2]⟩
noncomputable def Tryd.kp66:List Nat:=[0,1,2]
noncomputable def Tryd.cf66:CF:=⟨1,(cSeq (cOps [⟨some 1,true,none,iBox 124 (.t 0)⟩,
 ⟨some 2,true,none,iMov (.c (.int .i64 (.lit 0)))⟩])
 (cSeq (cOps [⟨some 3,false,none,iFaddr 1 (.t 1)⟩,
 ⟨some 4,false,none,iLoad (.t 3)⟩,
 ⟨some 2,true,none,iMov (.t 4)⟩])
 cRet)),[.t 2]⟩
noncomputable def Tryd.ra67040:C:=(cOps [⟨some 11,true,none,iAlloc 105 [(.int .i64 (.lit 0)),(.int .i64 (.lit 0)),(.int .i64 (.lit 0)),(.int .i64 (.lit 0)),(.int .i64 (.lit 0)),(.int .i64 (.lit 0)),(.int .i64 (.lit 0))]⟩,
 ⟨none,false,none,iStore 7 (.t 11) (.t 40)⟩])
noncomputable def Tryd.rb67040:C:=(cBlock 1 (cSeq (cSeq (cOps [⟨some 41,false,none,iLoadN 39 (.t 2)⟩,
 ⟨some 42,false,none,iLoadN 7 (.t 11)⟩,
 ⟨some 43,false,none,iCall (.c (.func (.func 57) [] [])) [(.t 41),(.t 42)]⟩,
 ⟨some 44,false,none,iMov (.t 43)⟩,
 ⟨some 45,false,some (44,false),iFaddr 2 (.t 11)⟩,
 ⟨some 46,false,some (44,false),iLoadN 3 (.t 45)⟩,
 ⟨some 47,false,some (44,false),iLoadN 3 (.t 10)⟩,
 ⟨some 48,false,some (44,false),iEq false true 3 [(0,.int),(1,.int),(2,.int)] (.t 46) (.t 47)⟩,
 ⟨some 49,true,none,iPick (.t 44) (.c (.bool (.lit true))) (.t 48)⟩])
 (cCond (.t 49) (cExit 1) cSkip))
 (cSeq (cOps [⟨some 50,false,none,iFaddr 2 (.t 11)⟩,
 ⟨some 51,false,none,iLoadN 3 (.t 50)⟩,
 ⟨none,false,none,iStore 3 (.t 10) (.t 51)⟩])
 (cSeq (cOps [⟨some 52,false,none,iLoad (.t 4)⟩,
 ⟨some 53,false,none,iFaddr 2 (.t 11)⟩,
 ⟨some 54,false,none,iLoadN 3 (.t 53)⟩,
 ⟨some 55,false,none,iCall (.t 52) [(.t 54)]⟩,
 ⟨some 12,true,none,iAlloc 107 [(.bool (.lit false)),(.int .i64 (.lit 0)),(.int .i64 (.lit 0)),(.int .i64 (.lit 0)),(.int .i64 (.lit 0)),(.int .i64 (.lit 0)),(.int .i64 (.lit 0)),(.int .i64 (.lit 0)),(.int .i64 (.lit 0))]⟩,
 ⟨none,false,none,iStore 9 (.t 12) (.t 55)⟩])
 (cSeq (cOps [⟨some 56,false,none,iFaddr 0 (.t 11)⟩,
 ⟨some 57,false,none,iFaddr 0 (.t 56)⟩,
 ⟨some 58,false,none,iLoad (.t 57)⟩,
 ⟨some 59,false,none,iFaddr 0 (.t 11)⟩,
 ⟨some 60,false,none,iFaddr 1 (.t 59)⟩,
 ⟨some 61,false,none,iLoad (.t 60)⟩,
 ⟨some 62,false,none,iArith .add (.t 58) (.t 61)⟩,
 ⟨some 63,false,none,iFaddr 1 (.t 12)⟩,
 ⟨some 64,false,none,iLoad (.t 63)⟩,
 ⟨some 65,false,none,iArith .add (.t 62) (.t 64)⟩,
 ⟨some 13,true,none,iMov (.t 65)⟩])
 (cSeq (cSeq (cOps [⟨some 66,false,none,iFaddr 0 (.t 12)⟩,
 ⟨some 67,false,none,iLoad (.t 66)⟩,
 ⟨some 68,false,none,iNot (.t 67)⟩,
 ⟨some 69,false,none,iMov (.t 68)⟩,
 ⟨some 70,false,some (69,false),iFaddr 0 (.t 9)⟩,
 ⟨some 71,false,some (69,false),iLoad (.t 70)⟩,
 ⟨some 72,false,some (69,false),iMov (.t 71)⟩,
 ⟨some 73,false,some (72,true),iFaddr 1 (.t 9)⟩,
 ⟨some 74,false,some (72,true),iLoad (.t 73)⟩,
 ⟨some 75,false,some (72,true),iMov (.t 13)⟩,
 ⟨some 76,false,some (72,true),iCmp .leq (.t 74) (.t 75)⟩,
 ⟨some 77,false,some (69,false),iPick (.t 72) (.t 76) (.c (.bool (.lit false)))⟩,
 ⟨some 78,true,none,iPick (.t 69) (.c (.bool (.lit true))) (.t 77)⟩])
 (cCond (.t 78) (cExit 1) cSkip))
 (cOps [⟨some 79,false,none,iMov (.t 13)⟩,
 ⟨some 80,false,none,iLoadN 7 (.t 11)⟩,
 ⟨some 81,false,none,iBuild [(.bool (.lit false)),(.int .i64 (.lit 0)),(.int .i64 (.lit 0)),(.int .i64 (.lit 0)),(.int .i64 (.lit 0)),(.int .i64 (.lit 0)),(.int .i64 (.lit 0)),(.int .i64 (.lit 0)),(.int .i64 (.lit 0))] [(0,1,(.c (.bool (.lit true)))),(1,1,(.t 79)),(2,7,(.t 80))]⟩,
 ⟨none,false,none,iStore 9 (.t 9) (.t 81)⟩])))))))
noncomputable def Tryd.kp67:List Nat:=[0,1,2,3,4,5,6,7,8,9,10,11,12,13,20,28,39,40,49,78]
noncomputable def Tryd.cf67:CF:=⟨5,(cSeq (cOps [⟨some 5,true,none,iBox 102 (.t 0)⟩,
 ⟨some 6,true,none,iAlloc 107 [(.bool (.lit false)),(.int .i64 (.lit 0)),(.int .i64 (.lit 0)),(.int .i64 (.lit 0)),(.int .i64 (.lit 0)),(.int .i64 (.lit 0)),(.int .i64 (.lit 0)),(.int .i64 (.lit 0)),(.int .i64 (.lit 0))]⟩])
 (cSeq (cSeq (cOps [⟨some 15,false,none,iLoad (.t 1)⟩,
 ⟨some 16,false,none,iLoadN 3 (.t 5)⟩,
 ⟨some 17,false,none,iLookup (.agg [(.bool (.lit false)),(.int .i64 (.lit 0)),(.int .i64 (.lit 0)),(.int .i64 (.lit 0)),(.int .i64 (.lit 0)),(.int .i64 (.lit 0)),(.int .i64 (.lit 0)),(.int .i64 (.lit 0)),(.int .i64 (.lit 0))]) true 3 [(0,.int),(1,.int),(2,.int)] true (.t 15) (.t 16)⟩,
 ⟨some 14,false,none,iMov (.t 17)⟩,
 ⟨some 18,false,none,iExtract 0 (.t 14)⟩,
 ⟨some 19,false,none,iExtract 1 (.t 14)⟩,
 ⟨some 7,true,none,iAlloc 107 [(.bool (.lit false)),(.int .i64 (.lit 0)),(.int .i64 (.lit 0)),(.int .i64 (.lit 0)),(.int .i64 (.lit 0)),(.int .i64 (.lit 0)),(.int .i64 (.lit 0)),(.int .i64 (.lit 0)),(.int .i64 (.lit 0))]⟩,
 ⟨none,false,none,iStore 9 (.t 7) (.t 18)⟩,
 ⟨some 8,true,none,iMov (.t 19)⟩])
 (cSeq (cOps [⟨some 20,true,none,iMov (.t 8)⟩])
 (cCond (.t 20) (cSeq (cOps [⟨some 21,false,none,iLoadN 9 (.t 7)⟩,
 ⟨none,false,none,iStore 9 (.t 6) (.t 21)⟩])
 cRet) cSkip)))
 (cSeq (cSeq (cOps [⟨some 22,false,none,iFaddr 0 (.t 5)⟩,
 ⟨some 23,false,none,iLoad (.t 22)⟩,
 ⟨some 24,false,none,iFaddr 0 (.t 2)⟩,
 ⟨some 25,false,none,iFaddr 22 (.t 24)⟩,
 ⟨some 26,false,none,iLoad (.t 25)⟩,
 ⟨some 27,false,none,iLenS (.t 26)⟩,
 ⟨some 28,true,none,iCmp .eql (.t 23) (.t 27)⟩])
 (cCond (.t 28) (cSeq (cOps [⟨some 29,false,none,iLoad (.t 1)⟩,
 ⟨some 30,false,none,iLoadN 3 (.t 5)⟩,
 ⟨some 31,false,none,iBuild [(.bool (.lit false)),(.int .i64 (.lit 0)),(.int .i64 (.lit 0)),(.int .i64 (.lit 0)),(.int .i64 (.lit 0)),(.int .i64 (.lit 0)),(.int .i64 (.lit 0)),(.int .i64 (.lit 0)),(.int .i64 (.lit 0))] [(0,1,(.c (.bool (.lit true))))]⟩,
 ⟨none,false,none,iMapset true 3 [(0,.int),(1,.int),(2,.int)] (.t 29) (.t 30) (.t 31)⟩])
 (cSeq (cOps [⟨some 32,false,none,iLoad (.t 1)⟩,
 ⟨some 33,false,none,iLoadN 3 (.t 5)⟩,
 ⟨some 34,false,none,iLookup (.agg [(.bool (.lit false)),(.int .i64 (.lit 0)),(.int .i64 (.lit 0)),(.int .i64 (.lit 0)),(.int .i64 (.lit 0)),(.int .i64 (.lit 0)),(.int .i64 (.lit 0)),(.int .i64 (.lit 0)),(.int .i64 (.lit 0))]) true 3 [(0,.int),(1,.int),(2,.int)] false (.t 32) (.t 33)⟩,
 ⟨none,false,none,iStore 9 (.t 6) (.t 34)⟩])
 cRet)) cSkip))
 (cSeq (cOps [⟨some 9,true,none,iAlloc 107 [(.bool (.lit false)),(.int .i64 (.lit 0)),(.int .i64 (.lit 0)),(.int .i64 (.lit 0)),(.int .i64 (.lit 0)),(.int .i64 (.lit 0)),(.int .i64 (.lit 0)),(.int .i64 (.lit 0)),(.int .i64 (.lit 0))]⟩])
 (cSeq (cOps [⟨some 35,false,none,iLoadN 3 (.t 5)⟩,
 ⟨some 10,true,none,iAlloc 102 [(.int .i64 (.lit 0)),(.int .i64 (.lit 0)),(.int .i64 (.lit 0))]⟩,
 ⟨none,false,none,iStore 3 (.t 10) (.t 35)⟩])
 (cSeq cSkip
 (cSeq (cSeq (cOps [⟨some 36,false,none,iLoadN 39 (.t 2)⟩,
 ⟨some 37,false,none,iLoadN 3 (.t 5)⟩,
 ⟨some 38,false,none,iLoadN 2 (.t 3)⟩,
 ⟨some 39,true,none,iCall (.c (.func (.func 68) [] [])) [(.t 36),(.t 37),(.t 38)]⟩])
 (cBlock 0 (cRange (.t 39) [40] 67040)))
 (cSeq (cOps [⟨some 82,false,none,iLoad (.t 1)⟩,
 ⟨some 83,false,none,iLoadN 3 (.t 5)⟩,
 ⟨some 84,false,none,iLoadN 9 (.t 9)⟩,
 ⟨none,false,none,iMapset true 3 [(0,.int),(1,.int),(2,.int)] (.t 82) (.t 83) (.t 84)⟩])
 (cSeq (cOps [⟨some 85,false,none,iLoadN 9 (.t 9)⟩,
 ⟨none,false,none,iStore 9 (.t 6) (.t 85)⟩])
 cRet))))))))),[.cell 6 true 9]⟩
noncomputable def Tryd.kp68:List Nat:=[0,1,2,3,4,5,6]
noncomputable def Tryd.cf68:CF:=⟨3,(cSeq (cOps [⟨some 3,true,none,iBox 69 (.t 0)⟩,
 ⟨some 4,true,none,iBox 102 (.t 1)⟩,
 ⟨some 5,true,none,iBox 95 (.t 2)⟩,
 ⟨some 6,true,none,iMov (.c .nilFunc)⟩])
 (cSeq (cOps [⟨some 7,false,none,iFunc (.func 73) [] [(.t 3),(.t 4),(.t 5)]⟩,
 ⟨some 6,true,none,iMov (.t 7)⟩])
 cRet)),[.t 6]⟩
noncomputable def Tryd.kp70:List Nat:=[0,1,2,3,5,7,8,12,13,14,15,26]
noncomputable def Tryd.cf70:CF:=⟨4,(cSeq (cOps [⟨some 9,false,none,iLoadN 39 (.t 1)⟩,
 ⟨some 10,false,none,iLoadN 2 (.t 2)⟩,
 ⟨some 11,false,none,iCall (.c (.func (.func 52) [] [])) [(.t 9),(.t 10)]⟩,
 ⟨some 5,true,none,iAlloc 102 [(.int .i64 (.lit 0)),(.int .i64 (.lit 0)),(.int .i64 (.lit 0))]⟩,
 ⟨none,false,none,iStore 3 (.t 5) (.t 11)⟩])
 (cSeq (cOps [⟨some 12,true,none,iLoad (.t 3)⟩,
 ⟨some 13,true,none,iLenS (.t 12)⟩,
 ⟨some 14,true,none,iMov (.c (.int .i64 (.lit 0)))⟩])
 (cBlock 0 (cLoop (cSeq (cOps [⟨some 15,true,none,iCmp .lss (.t 14) (.t 13)⟩])
 (cSeq (cCond (.t 15) cSkip (cExit 0))
 (cSeq (cBlock 1 (cSeq (cOps [⟨some 16,false,none,iIaddr 2 (.t 12) (.t 14)⟩,
 ⟨some 17,false,none,iLoadN 2 (.t 16)⟩,
 ⟨some 7,true,none,iAlloc 76 [(.int .i64 (.lit 0)),(.int .i64 (.lit 0))]⟩,
 ⟨none,false,none,iStore 2 (.t 7) (.t 17)⟩])
 (cSeq (cOps [⟨some 18,false,none,iLoadN 39 (.t 1)⟩,
 ⟨some 19,false,none,iLoadN 3 (.t 5)⟩,
 ⟨some 20,false,none,iLoadN 2 (.t 7)⟩,
 ⟨some 21,false,none,iLoadN 2 (.t 2)⟩,
 ⟨some 22,false,none,iCall (.c (.func (.func 71) [] [])) [(.t 18),(.t 19),(.t 20),(.t 21)]⟩,
 ⟨some 8,true,none,iAlloc 105 [(.int .i64 (.lit 0)),(.int .i64 (.lit 0)),(.int .i64 (.lit 0)),(.int .i64 (.lit 0)),(.int .i64 (.lit 0)),(.int .i64 (.lit 0)),(.int .i64 (.lit 0))]⟩,
 ⟨none,false,none,iStore 7 (.t 8) (.t 22)⟩])
 (cSeq (cSeq (cOps [⟨some 23,false,none,iMov (.t 0)⟩,
 ⟨some 24,false,none,iLoadN 7 (.t 8)⟩,
 ⟨some 25,false,none,iCall (.t 23) [(.t 24)]⟩,
 ⟨some 26,true,none,iNot (.t 25)⟩])
 (cCond (.t 26) cRet cSkip))
 (cOps [⟨some 27,false,none,iFaddr 2 (.t 8)⟩,
 ⟨some 28,false,none,iLoadN 3 (.t 27)⟩,
 ⟨none,false,none,iStore 3 (.t 5) (.t 28)⟩])))))
 (cOps [⟨some 29,false,none,iArith .add (.t 14) (.c (.int .i64 (.lit 1)))⟩,
 ⟨some 14,true,none,iMov (.t 29)⟩])))))))),[]⟩
noncomputable def Tryd.kp71:List Nat:=[0,1,2,3,4,5,6,7,8,9,10,11,12,13,14,15,16,34,35,36]
noncomputable def Tryd.cf71:CF:=⟨4,(cSeq (cOps [⟨some 4,true,none,iBox 69 (.t 0)⟩,
 ⟨some 5,true,none,iBox 102 (.t 1)⟩,
 ⟨some 6,true,none,iBox 76 (.t 2)⟩,
 ⟨some 7,true,none,iBox 95 (.t 3)⟩,
 ⟨some 8,true,none,iAlloc 105 [(.int .i64 (.lit 0)),(.int .i64 (.lit 0)),(.int .i64 (.lit 0)),(.int .i64 (.lit 0)),(.int .i64 (.lit 0)),(.int .i64 (.lit 0)),(.int .i64 (.lit 0))]⟩])
 (cSeq (cOps [⟨some 17,false,none,iLoadN 2 (.t 6)⟩,
 ⟨some 18,false,none,iFaddr 0 (.t 5)⟩,
 ⟨some 19,false,none,iLoad (.t 18)⟩,
 ⟨some 20,false,none,iArith .add (.t 19) (.c (.int .i64 (.lit 1)))⟩,
 ⟨some 21,false,none,iBuild [(.int .i64 (.lit 0)),(.int .i64 (.lit 0)),(.int .i64 (.lit 0))] [(0,1,(.t 20))]⟩,
 ⟨some 22,false,none,iBuild [(.int .i64 (.lit 0)),(.int .i64 (.lit 0)),(.int .i64 (.lit 0)),(.int .i64 (.lit 0)),(.int .i64 (.lit 0)),(.int .i64 (.lit 0)),(.int .i64 (.lit 0))] [(0,2,(.t 17)),(2,3,(.t 21))]⟩,
 ⟨some 9,true,none,iAlloc 105 [(.int .i64 (.lit 0)),(.int .i64 (.lit 0)),(.int .i64 (.lit 0)),(.int .i64 (.lit 0)),(.int .i64 (.lit 0)),(.int .i64 (.lit 0)),(.int .i64 (.lit 0))]⟩,
 ⟨none,false,none,iStore 7 (.t 9) (.t 22)⟩])
 (cSeq (cOps [⟨some 23,false,none,iFaddr 0 (.t 4)⟩,
 ⟨some 24,false,none,iFaddr 22 (.t 23)⟩,
 ⟨some 25,false,none,iLoad (.t 24)⟩,
 ⟨some 26,false,none,iFaddr 0 (.t 5)⟩,
 ⟨some 27,false,none,iLoad (.t 26)⟩,
 ⟨some 28,false,none,iIaddr 4 (.t 25) (.t 27)⟩,
 ⟨some 29,false,none,iLoadN 4 (.t 28)⟩,
 ⟨some 10,true,none,iAlloc 33 [(.int .i64 (.lit 0)),(.int .i64 (.lit 0)),(.bool (.lit false)),(.int .i64 (.lit 0))]⟩,
 ⟨none,false,none,iStore 4 (.t 10) (.t 29)⟩])
 (cSeq (cSeq (cOps [⟨some 30,false,none,iFaddr 0 (.t 6)⟩,
 ⟨some 31,false,none,iLoad (.t 30)⟩,
 ⟨some 32,false,none,iFaddr 1 (.t 6)⟩,
 ⟨some 33,false,none,iLoad (.t 32)⟩,
 ⟨some 34,true,none,iBuild [(.int .i64 (.lit 0)),(.int .i64 (.lit 0))] [(0,1,(.t 31)),(1,1,(.t 33))]⟩,
 ⟨some 35,true,none,iMov (.c (.int .i64 (.lit 0)))⟩])
 (cBlock 0 (cLoop (cSeq (cOps [⟨some 36,true,none,iCmp .lss (.t 35) (.c (.int .i64 (.lit 2)))⟩])
 (cSeq (cCond (.t 36) cSkip (cExit 0))
 (cSeq (cBlock 1 (cSeq (cOps [⟨some 37,false,none,iMov (.t 35)⟩,
 ⟨some 38,false,none,iIndex false 1 2 (.t 34) (.t 35)⟩,
 ⟨some 11,true,none,iMov (.t 37)⟩,
 ⟨some 12,true,none,iMov (.t 38)⟩])
 (cSeq (cOps [⟨some 39,false,none,iMov (.t 11)⟩,
 ⟨some 40,false,none,iFaddr 23 (.t 4)⟩,
 ⟨some 41,false,none,iIaddrA 8 2 (.t 40) (.t 39)⟩,
 ⟨some 42,false,none,iLoadN 8 (.t 41)⟩,
 ⟨some 13,true,none,iAlloc 66 [(.int .i64 (.lit 0)),(.int .i64 (.lit 0)),(.int .i64 (.lit 0)),(.int .i64 (.lit 0)),(.int .i64 (.lit 0)),(.int .i64 (.lit 0)),(.int .i64 (.lit 0)),(.int .i64 (.lit 0))]⟩,
 ⟨none,false,none,iStore 8 (.t 13) (.t 42)⟩])
 (cSeq (dOps 0 [⟨⟨some 43,false,none,iFaddr 2 (.t 13)⟩,[13],false,0,1,none,[]⟩,
 ⟨⟨some 44,false,none,iLoad (.t 43)⟩,[43],false,0,1,none,[]⟩,
 ⟨⟨some 45,false,none,iMov (.t 11)⟩,[11],false,0,0,none,[]⟩,
 ⟨⟨some 46,false,none,iFaddr 1 (.t 5)⟩,[5],false,0,0,none,[]⟩,
 ⟨⟨some 47,false,none,iIaddrA 1 2 (.t 46) (.t 45)⟩,[46,45],false,0,0,none,[]⟩,
 ⟨⟨some 48,false,none,iLoad (.t 47)⟩,[47],false,0,0,none,[]⟩,
 ⟨⟨some 49,false,none,iMov (.t 12)⟩,[12],false,0,0,none,[]⟩,
 ⟨⟨some 50,false,none,iFaddr 3 (.t 13)⟩,[13],false,0,0,none,[]⟩,
 ⟨⟨some 51,false,none,iLoad (.t 50)⟩,[50],false,0,0,none,[]⟩,
 ⟨⟨some 52,false,none,iArith .mul (.t 49) (.t 51)⟩,[49,51],false,0,0,none,[]⟩,
 ⟨⟨some 53,false,none,iArith .add (.t 48) (.t 52)⟩,[48,52],false,0,0,none,[]⟩,
 ⟨⟨some 54,false,none,iBslice 3 [(.int .i64 (.lit 0))] 1 [(0,1,(.t 53))]⟩,[53],true,0,0,none,[]⟩,
 ⟨⟨some 55,false,none,iCall (.c (.func (.func 74) [] [])) [(.t 44),(.t 54)]⟩,[44,54],true,1,0,none,[]⟩,
 ⟨⟨some 14,true,none,iMov (.t 55)⟩,[55],false,2,2,none,[]⟩])
 (cSeq (dOps 0 [⟨⟨some 56,false,none,iFaddr 1 (.t 7)⟩,[7],false,0,0,none,[]⟩,
 ⟨⟨some 57,false,none,iLoad (.t 56)⟩,[56],false,0,0,none,[]⟩,
 ⟨⟨some 58,false,none,iFaddr 0 (.t 10)⟩,[10],false,0,0,none,[]⟩,
 ⟨⟨some 59,false,none,iLoadN 2 (.t 58)⟩,[58],false,0,0,none,[]⟩,
 ⟨⟨some 60,false,none,iCall (.t 57) [(.t 59)]⟩,[57,59],true,0,0,none,[]⟩,
 ⟨⟨some 61,false,none,iFaddr 1 (.t 7)⟩,[7],false,0,2,none,[]⟩,
 ⟨⟨some 62,false,none,iLoad (.t 61)⟩,[61],false,0,2,none,[]⟩,
 ⟨⟨some 63,false,none,iLoadN 8 (.t 13)⟩,[13],false,0,1,none,[]⟩,
 ⟨⟨some 64,false,none,iLoadN 4 (.t 10)⟩,[10],false,0,1,none,[]⟩,
 ⟨⟨some 65,false,none,iCall (.c (.func (.func 75) [] [])) [(.t 63),(.t 64)]⟩,[63,64],true,1,0,none,[]⟩,
 ⟨⟨some 66,false,none,iCall (.t 62) [(.t 65)]⟩,[62,65],true,2,0,none,[]⟩,
 ⟨⟨some 67,false,none,iArith .mul (.t 60) (.t 66)⟩,[60,66],false,3,3,none,[]⟩,
 ⟨⟨some 15,true,none,iMov (.t 67)⟩,[67],false,3,3,none,[]⟩])
 (cSeq (cOps [⟨some 68,false,none,iMov (.t 14)⟩,
 ⟨some 69,false,none,iMov (.t 15)⟩,
 ⟨some 70,false,none,iBslice 3 [(.int .i64 (.lit 0))] 1 [(0,1,(.t 69))]⟩,
 ⟨some 71,false,none,iCall (.c (.func (.func 74) [] [])) [(.t 68),(.t 70)]⟩,
 ⟨some 16,true,none,iMov (.t 71)⟩])
 (cOps [⟨some 72,false,none,iMov (.t 11)⟩,
 ⟨some 73,false,none,iMov (.t 11)⟩,
 ⟨some 74,false,none,iMov (.t 14)⟩,
 ⟨some 75,false,none,iMov (.t 16)⟩,
 ⟨some 76,false,none,iArith .sub (.t 74) (.t 75)⟩,
 ⟨some 77,false,none,iMov (.t 15)⟩,
 ⟨some 78,false,none,iMov (.t 16)⟩,
 ⟨some 79,false,none,iArith .sub (.t 77) (.t 78)⟩,
 ⟨some 80,false,none,iFaddr 2 (.t 9)⟩,
 ⟨some 81,false,none,iFaddr 1 (.t 80)⟩,
 ⟨some 82,false,none,iIaddrA 1 2 (.t 81) (.t 72)⟩,
 ⟨none,false,none,iStore 1 (.t 82) (.t 76)⟩,
 ⟨some 83,false,none,iFaddr 5 (.t 9)⟩,
 ⟨some 84,false,none,iIaddrA 1 2 (.t 83) (.t 73)⟩,
 ⟨none,false,none,iStore 1 (.t 84) (.t 79)⟩])))))))
 (cOps [⟨some 85,false,none,iArith .add (.t 35) (.c (.int .i64 (.lit 1)))⟩,
 ⟨some 35,true,none,iMov (.t 85)⟩])))))))
 (cSeq (cOps [⟨some 86,false,none,iLoadN 7 (.t 9)⟩,
 ⟨none,false,none,iStore 7 (.t 8) (.t 86)⟩])
 cRet))))),[.cell 8 true 7]⟩
noncomputable def Tryd.kp72:List Nat:=[0,1,2,3,4]
noncomputable def Tryd.cf72:CF:=⟨2,(cSeq (cOps [⟨some 2,true,none,iBox 23 (.t 0)⟩,
 ⟨some 3,true,none,iBox 23 (.t 1)⟩,
 ⟨some 4,true,none,iMov (.c (.bool (.lit false)))⟩])
 (cSeq (cOps [⟨some 5,false,none,iFaddr 0 (.t 3)⟩,
 ⟨some 6,false,none,iLoad (.t 5)⟩,
 ⟨some 7,false,none,iFaddr 0 (.t 2)⟩,
 ⟨some 8,false,none,iLoad (.t 7)⟩,
 ⟨some 9,false,none,iCmp .leq (.t 6) (.t 8)⟩,
 ⟨some 10,false,none,iMov (.t 9)⟩,
 ⟨some 11,false,some (10,true),iFaddr 0 (.t 2)⟩,
 ⟨some 12,false,some (10,true),iLoad (.t 11)⟩,
 ⟨some 13,false,some (10,true),iFaddr 1 (.t 2)⟩,
 ⟨some 14,false,some (10,true),iLoad (.t 13)⟩,
 ⟨some 15,false,some (10,true),iCmp .leq (.t 12) (.t 14)⟩,
 ⟨some 16,false,none,iPick (.t 10) (.t 15) (.c (.bool (.lit false)))⟩,
 ⟨some 17,false,none,iMov (.t 16)⟩,
 ⟨some 18,false,some (17,true),iFaddr 1 (.t 2)⟩,
 ⟨some 19,false,some (17,true),iLoad (.t 18)⟩,
 ⟨some 20,false,some (17,true),iFaddr 1 (.t 3)⟩,
 ⟨some 21,false,some (17,true),iLoad (.t 20)⟩,
 ⟨some 22,false,some (17,true),iCmp .leq (.t 19) (.t 21)⟩,
 ⟨some 23,false,none,iPick (.t 17) (.t 22) (.c (.bool (.lit false)))⟩,
 ⟨some 4,true,none,iMov (.t 23)⟩])
 cRet)),[.t 4]⟩
noncomputable def Tryd.kp73:List Nat:=[0,1,2,3,5,6,7,17,18,19,24,25,26,37]
noncomputable def Tryd.cf73:CF:=⟨4,(cSeq (cOps [⟨some 8,false,none,iFaddr 0 (.t 1)⟩,
 ⟨some 9,false,none,iFaddr 22 (.t 8)⟩,
 ⟨some 10,false,none,iLoad (.t 9)⟩,
 ⟨some 11,false,none,iFaddr 0 (.t 2)⟩,
 ⟨some 12,false,none,iLoad (.t 11)⟩,
 ⟨some 13,false,none,iIaddr 4 (.t 10) (.t 12)⟩,
 ⟨some 14,false,none,iFaddr 3 (.t 13)⟩,
 ⟨some 15,false,none,iLoad (.t 14)⟩,
 ⟨some 5,true,none,iMov (.t 15)⟩])
 (cSeq (cOps [⟨some 16,false,none,iMov (.t 5)⟩,
 ⟨some 17,true,none,iArith .add (.t 16) (.c (.int .i64 (.lit 1)))⟩,
 ⟨some 18,true,none,iMov (.c (.int .i64 (.lit 0)))⟩])
 (cBlock 0 (cLoop (cSeq (cOps [⟨some 19,true,none,iCmp .lss (.t 18) (.t 17)⟩])
 (cSeq (cCond (.t 19) cSkip (cExit 0))
 (cSeq (cBlock 1 (cSeq (cOps [⟨some 20,false,none,iMov (.t 18)⟩,
 ⟨some 6,true,none,iMov (.t 20)⟩])
 (cSeq (cOps [⟨some 21,false,none,iMov (.t 5)⟩,
 ⟨some 22,false,none,iMov (.t 6)⟩,
 ⟨some 23,false,none,iArith .sub (.t 21) (.t 22)⟩,
 ⟨some 24,true,none,iArith .add (.t 23) (.c (.int .i64 (.lit 1)))⟩,
 ⟨some 25,true,none,iMov (.c (.int .i64 (.lit 0)))⟩])
 (cBlock 2 (cLoop (cSeq (cOps [⟨some 26,true,none,iCmp .lss (.t 25) (.t 24)⟩])
 (cSeq (cCond (.t 26) cSkip (cExit 2))
 (cSeq (cBlock 3 (cSeq (cOps [⟨some 27,false,none,iMov (.t 25)⟩,
 ⟨some 7,true,none,iMov (.t 27)⟩])
 (cSeq (cOps [⟨some 28,false,none,iMov (.t 0)⟩,
 ⟨some 29,false,none,iLoadN 39 (.t 1)⟩,
 ⟨some 30,false,none,iLoadN 3 (.t 2)⟩,
 ⟨some 31,false,none,iMov (.t 6)⟩,
 ⟨some 32,false,none,iMov (.t 7)⟩,
 ⟨some 33,false,none,iBuild [(.int .i64 (.lit 0)),(.int .i64 (.lit 0))] [(0,1,(.t 31)),(1,1,(.t 32))]⟩,
 ⟨some 34,false,none,iLoadN 2 (.t 3)⟩,
 ⟨some 35,false,none,iCall (.c (.func (.func 71) [] [])) [(.t 29),(.t 30),(.t 33),(.t 34)]⟩,
 ⟨some 36,false,none,iCall (.t 28) [(.t 35)]⟩,
 ⟨some 37,true,none,iNot (.t 36)⟩])
 (cCond (.t 37) cRet cSkip))))
 (cOps [⟨some 38,false,none,iArith .add (.t 25) (.c (.int .i64 (.lit 1)))⟩,
 ⟨some 25,true,none,iMov (.t 38)⟩])))))))))
 (cOps [⟨some 39,false,none,iArith .add (.t 18) (.c (.int .i64 (.lit 1)))⟩,
 ⟨some 18,true,none,iMov (.t 39)⟩])))))))),[]⟩
noncomputable def Tryd.kp74:List Nat:=[0,1,4,6,7,8,9,10,15]
noncomputable def Tryd.cf74:CF:=⟨2,(cSeq (cOps [⟨some 4,true,none,iMov (.c (.int .i64 (.lit 0)))⟩])
 (cSeq (cSeq (cOps [⟨some 7,true,none,iMov (.t 1)⟩,
 ⟨some 8,true,none,iLenS (.t 7)⟩,
 ⟨some 9,true,none,iMov (.c (.int .i64 (.lit 0)))⟩])
 (cBlock 0 (cLoop (cSeq (cOps [⟨some 10,true,none,iCmp .lss (.t 9) (.t 8)⟩])
 (cSeq (cCond (.t 10) cSkip (cExit 0))
 (cSeq (cBlock 1 (cSeq (cOps [⟨some 11,false,none,iIaddr 1 (.t 7) (.t 9)⟩,
 ⟨some 12,false,none,iLoad (.t 11)⟩,
 ⟨some 6,true,none,iMov (.t 12)⟩])
 (cSeq (cOps [⟨some 13,false,none,iMov (.t 6)⟩,
 ⟨some 14,false,none,iMov (.t 0)⟩,
 ⟨some 15,true,none,iCmp .lss (.t 13) (.t 14)⟩])
 (cCond (.t 15) (cOps [⟨some 16,false,none,iMov (.t 6)⟩,
 ⟨some 0,true,none,iMov (.t 16)⟩]) cSkip))))
 (cOps [⟨some 17,false,none,iArith .add (.t 9) (.c (.int .i64 (.lit 1)))⟩,
 ⟨some 9,true,none,iMov (.t 17)⟩])))))))
 (cSeq (cOps [⟨some 18,false,none,iMov (.t 0)⟩,
 ⟨some 4,true,none,iMov (.t 18)⟩])
 cRet))),[.t 4]⟩
noncomputable def Tryd.kp75:List Nat:=[0,1,2,3,4,6]
noncomputable def Tryd.cf75:CF:=⟨2,(cSeq (cOps [⟨some 2,true,none,iBox 66 (.t 0)⟩,
 ⟨some 3,true,none,iBox 33 (.t 1)⟩,
 ⟨some 4,true,none,iAlloc 23 [(.int .i64 (.lit 0)),(.int .i64 (.lit 0))]⟩])
 (cSeq (cSeq (cOps [⟨some 5,false,none,iFaddr 2 (.t 3)⟩,
 ⟨some 6,true,none,iLoad (.t 5)⟩])
 (cCond (.t 6) (cSeq (cOps [⟨some 7,false,none,iFaddr 4 (.t 2)⟩,
 ⟨some 8,false,none,iIaddrA 2 2 (.t 7) (.c (.int .i64 (.lit 1)))⟩,
 ⟨some 9,false,none,iLoadN 2 (.t 8)⟩,
 ⟨none,false,none,iStore 2 (.t 4) (.t 9)⟩])
 cRet) cSkip))
 (cSeq (cOps [⟨some 10,false,none,iFaddr 4 (.t 2)⟩,
 ⟨some 11,false,none,iIaddrA 2 2 (.t 10) (.c (.int .i64 (.lit 0)))⟩,
 ⟨some 12,false,none,iLoadN 2 (.t 11)⟩,
 ⟨none,false,none,iStore 2 (.t 4) (.t 12)⟩])
 cRet))),[.cell 4 true 2]⟩
noncomputable def Tryd.ft:PT CF:=(.node none (.node none (.node (some Tryd.cf3) (.node (some Tryd.cf7) (.node none (.node (some Tryd.cf31) (.node (some Tryd.cf63) .nil .nil) .nil) (.node (some Tryd.cf47) .nil .nil)) (.node (some Tryd.cf23) (.node none (.node (some Tryd.cf71) .nil .nil) .nil) .nil)) (.node (some Tryd.cf11) (.node (some Tryd.cf19) (.node none (.node (some Tryd.cf67) .nil .nil) .nil) (.node (some Tryd.cf51) .nil .nil)) (.node (some Tryd.cf27) (.node (some Tryd.cf43) (.node (some Tryd.cf75) .nil .nil) .nil) (.node (some Tryd.cf59) .nil .nil)))) (.node none (.node (some Tryd.cf9) (.node (some Tryd.cf17) (.node (some Tryd.cf33) (.node (some Tryd.cf65) .nil .nil) .nil) (.node (some Tryd.cf49) .nil .nil)) (.node (some Tryd.cf25) (.node (some Tryd.cf41) (.node (some Tryd.cf73) .nil .nil) .nil) (.node (some Tryd.cf57) .nil .nil))) (.node none (.node (some Tryd.cf21) (.node (some Tryd.cf37) .nil .nil) (.node (some Tryd.cf53) .nil .nil)) (.node (some Tryd.cf29) (.node (some Tryd.cf45) .nil .nil) (.node (some Tryd.cf61) .nil .nil))))) (.node none (.node none (.node (some Tryd.cf8) (.node (some Tryd.cf16) (.node (some Tryd.cf32) (.node (some Tryd.cf64) .nil .nil) .nil) (.node (some Tryd.cf48) .nil .nil)) (.node (some Tryd.cf24) (.node (some Tryd.cf40) (.node (some Tryd.cf72) .nil .nil) .nil) (.node (some Tryd.cf56) .nil .nil))) (.node (some Tryd.cf12) (.node (some Tryd.cf20) (.node none (.node (some Tryd.cf68) .nil .nil) .nil) (.node (some Tryd.cf52) .nil .nil)) (.node (some Tryd.cf28) (.node (some Tryd.cf44) .nil .nil) (.node (some Tryd.cf60) .nil .nil)))) (.node (some Tryd.cf6) (.node (some Tryd.cf10) (.node none (.node none (.node (some Tryd.cf66) .nil .nil) .nil) (.node (some Tryd.cf50) .nil .nil)) (.node (some Tryd.cf26) (.node (some Tryd.cf42) (.node (some Tryd.cf74) .nil .nil) .nil) (.node (some Tryd.cf58) .nil .nil))) (.node none (.node (some Tryd.cf22) (.node (some Tryd.cf38) (.node (some Tryd.cf70) .nil .nil) .nil) (.node (some Tryd.cf54) .nil .nil)) (.node (some Tryd.cf30) (.node (some Tryd.cf46) .nil .nil) (.node (some Tryd.cf62) .nil .nil))))))
noncomputable def Tryd.rt:List (Nat × (C × C)):=[(38017,(Tryd.ra38017,Tryd.rb38017)),(41021,(Tryd.ra41021,Tryd.rb41021)),(41033,(Tryd.ra41033,Tryd.rb41033)),(67040,(Tryd.ra67040,Tryd.rb67040))]
end Go.Sx
