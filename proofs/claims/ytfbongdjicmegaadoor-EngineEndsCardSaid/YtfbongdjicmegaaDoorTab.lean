/- Tab -/
import Derived.Test.YtfbongdjicmegaaDoorSxOps6
import Derived.KernelRfl
namespace Go.Sx
set_option maxRecDepth 100000
noncomputable def Tryd.ti3:TI:=⟨.int .i64,1,8,(some (.int .i64 (.lit 0))),false⟩
noncomputable def Tryd.ti4:TI:=⟨.bool,1,1,(some (.bool (.lit false))),false⟩
noncomputable def Tryd.ti23:TI:=⟨.struct #[⟨ "Low",3,0,false,"","",0⟩,⟨ "High",3,1,false,"","",8⟩],2,16,(some (.agg [(.int .i64 (.lit 0)),(.int .i64 (.lit 0))])),true⟩
noncomputable def Tryd.ti24:TI:=⟨.array 2 23,4,32,(some (.agg [(.int .i64 (.lit 0)),(.int .i64 (.lit 0)),(.int .i64 (.lit 0)),(.int .i64 (.lit 0))])),true⟩
noncomputable def Tryd.ti25:TI:=⟨.slice 33,1,24,(some .nilslice),false⟩
noncomputable def Tryd.ti27:TI:=⟨.struct #[⟨ "Coal",23,0,false,"","",0⟩,⟨ "Water",23,2,false,"","",16⟩,⟨ "Bunker",3,4,false,"","",32⟩,⟨ "Tank",3,5,false,"","",40⟩,⟨ "Scoop",3,6,false,"","",48⟩,⟨ "Pail",3,7,false,"","",56⟩,⟨ "Burn",24,8,false,"","",64⟩,⟨ "Drink",24,12,false,"","",96⟩,⟨ "Full",23,16,false,"","",128⟩,⟨ "Weak",23,18,false,"","",144⟩,⟨ "Mark",3,20,false,"","",160⟩,⟨ "Lamp",3,21,false,"","",168⟩,⟨ "Parts",25,22,false,"","",176⟩],23,200,(some (.agg [(.int .i64 (.lit 0)),(.int .i64 (.lit 0)),(.int .i64 (.lit 0)),(.int .i64 (.lit 0)),(.int .i64 (.lit 0)),(.int .i64 (.lit 0)),(.int .i64 (.lit 0)),(.int .i64 (.lit 0)),(.int .i64 (.lit 0)),(.int .i64 (.lit 0)),(.int .i64 (.lit 0)),(.int .i64 (.lit 0)),(.int .i64 (.lit 0)),(.int .i64 (.lit 0)),(.int .i64 (.lit 0)),(.int .i64 (.lit 0)),(.int .i64 (.lit 0)),(.int .i64 (.lit 0)),(.int .i64 (.lit 0)),(.int .i64 (.lit 0)),(.int .i64 (.lit 0)),(.int .i64 (.lit 0)),.nilslice])),true⟩
noncomputable def Tryd.ti28:TI:=⟨.array 2 3,2,16,(some (.agg [(.int .i64 (.lit 0)),(.int .i64 (.lit 0))])),true⟩
noncomputable def Tryd.ti33:TI:=⟨.struct #[⟨ "Minutes",23,0,false,"","",0⟩,⟨ "Light",4,2,false,"","",16⟩,⟨ "Walks",3,3,false,"","",24⟩],4,32,(some (.agg [(.int .i64 (.lit 0)),(.int .i64 (.lit 0)),(.bool (.lit false)),(.int .i64 (.lit 0))])),true⟩
noncomputable def Tryd.ti34:TI:=⟨.slice 76,1,24,(some .nilslice),false⟩
noncomputable def Tryd.ti35:TI:=⟨.int .i64,1,8,(some (.int .i64 (.lit 0))),false⟩
noncomputable def Tryd.ti43:TI:=⟨.slice 3,1,24,(some .nilslice),false⟩
noncomputable def Tryd.ti45:TI:=⟨.struct #[⟨ "coal",43,0,false,"","bioscope/bioscopelaw04",0⟩,⟨ "water",43,1,false,"","bioscope/bioscopelaw04",24⟩,⟨ "failed",3,2,false,"","bioscope/bioscopelaw04",48⟩],3,56,(some (.agg [.nilslice,.nilslice,(.int .i64 (.lit 0))])),true⟩
noncomputable def Tryd.ti66:TI:=⟨.struct #[⟨ "first",23,0,false,"","bioscope/engine",0⟩,⟨ "room",3,2,false,"","bioscope/engine",16⟩,⟨ "load",3,3,false,"","bioscope/engine",24⟩,⟨ "takes",24,4,false,"","bioscope/engine",32⟩],8,64,(some (.agg [(.int .i64 (.lit 0)),(.int .i64 (.lit 0)),(.int .i64 (.lit 0)),(.int .i64 (.lit 0)),(.int .i64 (.lit 0)),(.int .i64 (.lit 0)),(.int .i64 (.lit 0)),(.int .i64 (.lit 0))])),true⟩
noncomputable def Tryd.ti67:TI:=⟨.array 2 66,16,128,(some (.agg [(.int .i64 (.lit 0)),(.int .i64 (.lit 0)),(.int .i64 (.lit 0)),(.int .i64 (.lit 0)),(.int .i64 (.lit 0)),(.int .i64 (.lit 0)),(.int .i64 (.lit 0)),(.int .i64 (.lit 0)),(.int .i64 (.lit 0)),(.int .i64 (.lit 0)),(.int .i64 (.lit 0)),(.int .i64 (.lit 0)),(.int .i64 (.lit 0)),(.int .i64 (.lit 0)),(.int .i64 (.lit 0)),(.int .i64 (.lit 0))])),true⟩
noncomputable def Tryd.ti69:TI:=⟨.struct #[⟨ "EngineBook",27,0,true,"","",0⟩,⟨ "stores",67,23,false,"","bioscope/engine",200⟩],39,328,(some (.agg [(.int .i64 (.lit 0)),(.int .i64 (.lit 0)),(.int .i64 (.lit 0)),(.int .i64 (.lit 0)),(.int .i64 (.lit 0)),(.int .i64 (.lit 0)),(.int .i64 (.lit 0)),(.int .i64 (.lit 0)),(.int .i64 (.lit 0)),(.int .i64 (.lit 0)),(.int .i64 (.lit 0)),(.int .i64 (.lit 0)),(.int .i64 (.lit 0)),(.int .i64 (.lit 0)),(.int .i64 (.lit 0)),(.int .i64 (.lit 0)),(.int .i64 (.lit 0)),(.int .i64 (.lit 0)),(.int .i64 (.lit 0)),(.int .i64 (.lit 0)),(.int .i64 (.lit 0)),(.int .i64 (.lit 0)),.nilslice,(.int .i64 (.lit 0)),(.int .i64 (.lit 0)),(.int .i64 (.lit 0)),(.int .i64 (.lit 0)),(.int .i64 (.lit 0)),(.int .i64 (.lit 0)),(.int .i64 (.lit 0)),(.int .i64 (.lit 0)),(.int .i64 (.lit 0)),(.int .i64 (.lit 0)),(.int .i64 (.lit 0)),(.int .i64 (.lit 0)),(.int .i64 (.lit 0)),(.int .i64 (.lit 0)),(.int .i64 (.lit 0)),(.int .i64 (.lit 0))])),true⟩
noncomputable def Tryd.ti74:TI:=⟨.func #[3] #[4] false,1,8,(some .nilFunc),false⟩
noncomputable def Tryd.ti76:TI:=⟨.struct #[⟨ "Coal",3,0,false,"","",0⟩,⟨ "Water",3,1,false,"","",8⟩],2,16,(some (.agg [(.int .i64 (.lit 0)),(.int .i64 (.lit 0))])),true⟩
noncomputable def Tryd.ti78:TI:=⟨.struct #[⟨ "bits",43,0,false,"","bioscope/bioscopelaw04",0⟩,⟨ "at",3,1,false,"","bioscope/bioscopelaw04",24⟩],2,32,(some (.agg [.nilslice,(.int .i64 (.lit 0))])),true⟩
noncomputable def Tryd.ti91:TI:=⟨.struct #[⟨ "evening",69,0,true,"","bioscope/engine",0⟩,⟨ "part",3,39,false,"","bioscope/engine",328⟩],40,336,(some (.agg [(.int .i64 (.lit 0)),(.int .i64 (.lit 0)),(.int .i64 (.lit 0)),(.int .i64 (.lit 0)),(.int .i64 (.lit 0)),(.int .i64 (.lit 0)),(.int .i64 (.lit 0)),(.int .i64 (.lit 0)),(.int .i64 (.lit 0)),(.int .i64 (.lit 0)),(.int .i64 (.lit 0)),(.int .i64 (.lit 0)),(.int .i64 (.lit 0)),(.int .i64 (.lit 0)),(.int .i64 (.lit 0)),(.int .i64 (.lit 0)),(.int .i64 (.lit 0)),(.int .i64 (.lit 0)),(.int .i64 (.lit 0)),(.int .i64 (.lit 0)),(.int .i64 (.lit 0)),(.int .i64 (.lit 0)),.nilslice,(.int .i64 (.lit 0)),(.int .i64 (.lit 0)),(.int .i64 (.lit 0)),(.int .i64 (.lit 0)),(.int .i64 (.lit 0)),(.int .i64 (.lit 0)),(.int .i64 (.lit 0)),(.int .i64 (.lit 0)),(.int .i64 (.lit 0)),(.int .i64 (.lit 0)),(.int .i64 (.lit 0)),(.int .i64 (.lit 0)),(.int .i64 (.lit 0)),(.int .i64 (.lit 0)),(.int .i64 (.lit 0)),(.int .i64 (.lit 0)),(.int .i64 (.lit 0))])),true⟩
noncomputable def Tryd.ti93:TI:=⟨.func #[124] #[3] false,1,8,(some .nilFunc),false⟩
noncomputable def Tryd.ti95:TI:=⟨.struct #[⟨ "has",93,0,false,"","bioscope/engine",0⟩,⟨ "takes",93,1,false,"","bioscope/engine",8⟩],2,16,(some (.agg [.nilFunc,.nilFunc])),true⟩
noncomputable def Tryd.ti98:TI:=⟨.map 102 107,1,8,(some .nilmap),false⟩
noncomputable def Tryd.ti100:TI:=⟨.array 2 3,2,16,(some (.agg [(.int .i64 (.lit 0)),(.int .i64 (.lit 0))])),true⟩
noncomputable def Tryd.ti102:TI:=⟨.struct #[⟨ "part",3,0,false,"","bioscope/engine",0⟩,⟨ "left",100,1,false,"","bioscope/engine",8⟩],3,24,(some (.agg [(.int .i64 (.lit 0)),(.int .i64 (.lit 0)),(.int .i64 (.lit 0))])),true⟩
noncomputable def Tryd.ti105:TI:=⟨.struct #[⟨ "walks",76,0,false,"","bioscope/engine",0⟩,⟨ "behind",102,2,false,"","bioscope/engine",16⟩,⟨ "lacks",100,5,false,"","bioscope/engine",40⟩],7,56,(some (.agg [(.int .i64 (.lit 0)),(.int .i64 (.lit 0)),(.int .i64 (.lit 0)),(.int .i64 (.lit 0)),(.int .i64 (.lit 0)),(.int .i64 (.lit 0)),(.int .i64 (.lit 0))])),true⟩
noncomputable def Tryd.ti107:TI:=⟨.struct #[⟨ "enough",4,0,false,"","bioscope/engine",0⟩,⟨ "many",3,1,false,"","bioscope/engine",8⟩,⟨ "first",105,2,false,"","bioscope/engine",16⟩],9,72,(some (.agg [(.bool (.lit false)),(.int .i64 (.lit 0)),(.int .i64 (.lit 0)),(.int .i64 (.lit 0)),(.int .i64 (.lit 0)),(.int .i64 (.lit 0)),(.int .i64 (.lit 0)),(.int .i64 (.lit 0)),(.int .i64 (.lit 0))])),true⟩
noncomputable def Tryd.ti113:TI:=⟨.array 6 3,6,48,(some (.agg [(.int .i64 (.lit 0)),(.int .i64 (.lit 0)),(.int .i64 (.lit 0)),(.int .i64 (.lit 0)),(.int .i64 (.lit 0)),(.int .i64 (.lit 0))])),true⟩
noncomputable def Tryd.ti114:TI:=⟨.array 6 23,12,96,(some (.agg [(.int .i64 (.lit 0)),(.int .i64 (.lit 0)),(.int .i64 (.lit 0)),(.int .i64 (.lit 0)),(.int .i64 (.lit 0)),(.int .i64 (.lit 0)),(.int .i64 (.lit 0)),(.int .i64 (.lit 0)),(.int .i64 (.lit 0)),(.int .i64 (.lit 0)),(.int .i64 (.lit 0)),(.int .i64 (.lit 0))])),true⟩
noncomputable def Tryd.ti116:TI:=⟨.slice 23,1,24,(some .nilslice),false⟩
noncomputable def Tryd.ti119:TI:=⟨.int .u64,1,8,(some (.int .u64 (.lit 0))),false⟩
noncomputable def Tryd.ti120:TI:=⟨.func #[69] #[66] false,1,8,(some .nilFunc),false⟩
noncomputable def Tryd.ti122:TI:=⟨.array 2 120,2,16,(some (.agg [.nilFunc,.nilFunc])),true⟩
noncomputable def Tryd.ti124:TI:=⟨.struct #[⟨ "Low",3,0,false,"","",0⟩,⟨ "High",3,1,false,"","",8⟩],2,16,(some (.agg [(.int .i64 (.lit 0)),(.int .i64 (.lit 0))])),true⟩
noncomputable def Tryd.ti125:TI:=⟨.func #[102] #[107] false,1,8,(some .nilFunc),false⟩
noncomputable def Tryd.tt:PT TI:=(.node none (.node none (.node (some Tryd.ti3) (.node none (.node none (.node none .nil (.node (some Tryd.ti95) .nil .nil)) .nil) (.node (some Tryd.ti23) .nil (.node none .nil (.node (some Tryd.ti119) .nil .nil)))) (.node none (.node none (.node (some Tryd.ti35) (.node (some Tryd.ti67) .nil .nil) .nil) .nil) (.node (some Tryd.ti27) (.node (some Tryd.ti43) .nil (.node (some Tryd.ti107) .nil .nil)) (.node none (.node (some Tryd.ti91) .nil .nil) .nil)))) (.node none (.node none (.node none (.node (some Tryd.ti33) .nil .nil) (.node none .nil (.node (some Tryd.ti113) .nil .nil))) (.node (some Tryd.ti25) (.node none .nil (.node (some Tryd.ti105) .nil .nil)) .nil)) (.node none (.node none (.node none (.node (some Tryd.ti69) .nil .nil) .nil) .nil) (.node none (.node (some Tryd.ti45) .nil .nil) (.node none (.node (some Tryd.ti93) .nil .nil) (.node (some Tryd.ti125) .nil .nil)))))) (.node none (.node (some Tryd.ti4) (.node none .nil (.node (some Tryd.ti24) .nil (.node none .nil (.node (some Tryd.ti120) .nil .nil)))) (.node none (.node none (.node none .nil (.node (some Tryd.ti100) .nil .nil)) (.node none .nil (.node (some Tryd.ti116) .nil .nil))) (.node (some Tryd.ti28) (.node none (.node (some Tryd.ti76) .nil .nil) .nil) (.node none .nil (.node (some Tryd.ti124) .nil .nil))))) (.node none (.node none (.node none (.node (some Tryd.ti34) (.node (some Tryd.ti66) .nil .nil) (.node (some Tryd.ti98) .nil .nil)) (.node none .nil (.node (some Tryd.ti114) .nil .nil))) (.node none (.node none (.node (some Tryd.ti74) .nil .nil) .nil) (.node none .nil (.node (some Tryd.ti122) .nil .nil)))) (.node none (.node none (.node none .nil (.node (some Tryd.ti102) .nil .nil)) .nil) (.node none (.node none (.node (some Tryd.ti78) .nil .nil) .nil) .nil)))))
noncomputable def Tryd.kp5:List Nat:=[0,1,2,3,6,7,8,9,10,11,12,13,14,15,16,17,18,19,22,49,54,64,106,121]
noncomputable def Tryd.cf5:CF:=⟨3,(ae (al [⟨some 3,true,none,cT 27 (.t 0)⟩,
 ⟨some 6,true,none,ab (.c (.bool (.lit false)))⟩])
 (ae (ae (al [⟨some 20,false,none,ac 23 (.t 3)⟩,
 ⟨some 21,false,none,ar (.c (.func (.func 6) [] [])) [(.t 20)]⟩,
 ⟨some 22,true,none,iNot (.t 21)⟩])
 (aO (.t 22) (ae (al [⟨some 23,false,none,ar (.c (.func (.func 7) [] [])) []⟩,
 ⟨some 6,true,none,ab (.t 23)⟩])
 bg) aM))
 (ae (dOps 0 [⟨⟨some 24,false,none,ac 23 (.t 3)⟩,[3],false,0,0,none,[]⟩,
 ⟨⟨some 25,false,none,ab (.t 1)⟩,[1],false,0,0,none,[]⟩,
 ⟨⟨some 26,false,none,ar (.c (.func (.func 15) [] [])) [(.t 24),(.t 25)]⟩,[24,25],true,0,0,none,[]⟩,
 ⟨⟨some 27,false,none,ab (.t 2)⟩,[2],false,0,1,none,[]⟩,
 ⟨⟨some 28,false,none,aa 22 (.t 3)⟩,[3],false,0,1,none,[]⟩,
 ⟨⟨some 29,false,none,au (.t 28)⟩,[28],false,0,1,none,[]⟩,
 ⟨⟨some 30,false,none,cO (.t 29)⟩,[29],false,0,1,none,[]⟩,
 ⟨⟨some 31,false,none,ar (.c (.func (.func 8) [] [])) [(.t 27),(.t 30)]⟩,[27,30],true,1,0,none,[]⟩,
 ⟨⟨some 7,true,none,ab (.t 26)⟩,[26],false,2,2,none,[]⟩,
 ⟨⟨some 8,true,none,ab (.t 31)⟩,[31],false,2,2,none,[]⟩])
 (ae (dOps 2 [⟨⟨some 32,false,none,ac 23 (.t 3)⟩,[3],false,0,0,none,[]⟩,
 ⟨⟨some 33,false,none,ar (.c (.func (.func 18) [] [])) [(.t 32),(.c (.bool (.lit false)))]⟩,[32],true,0,0,none,[]⟩,
 ⟨⟨some 34,false,none,ac 23 (.t 3)⟩,[3],false,0,1,none,[]⟩,
 ⟨⟨some 35,false,none,ar (.c (.func (.func 18) [] [])) [(.t 34),(.c (.bool (.lit true)))]⟩,[34],true,1,0,none,[]⟩,
 ⟨⟨some 9,true,none,ay 27 [(.int .i64 (.lit 0)),(.int .i64 (.lit 0)),(.int .i64 (.lit 0)),(.int .i64 (.lit 0)),(.int .i64 (.lit 0)),(.int .i64 (.lit 0)),(.int .i64 (.lit 0)),(.int .i64 (.lit 0)),(.int .i64 (.lit 0)),(.int .i64 (.lit 0)),(.int .i64 (.lit 0)),(.int .i64 (.lit 0)),(.int .i64 (.lit 0)),(.int .i64 (.lit 0)),(.int .i64 (.lit 0)),(.int .i64 (.lit 0)),(.int .i64 (.lit 0)),(.int .i64 (.lit 0)),(.int .i64 (.lit 0)),(.int .i64 (.lit 0)),(.int .i64 (.lit 0)),(.int .i64 (.lit 0)),.nilslice]⟩,[],false,0,4,(some (gY [(.int .i64 (.lit 0)),(.int .i64 (.lit 0)),(.int .i64 (.lit 0)),(.int .i64 (.lit 0)),(.int .i64 (.lit 0)),(.int .i64 (.lit 0)),(.int .i64 (.lit 0)),(.int .i64 (.lit 0)),(.int .i64 (.lit 0)),(.int .i64 (.lit 0)),(.int .i64 (.lit 0)),(.int .i64 (.lit 0)),(.int .i64 (.lit 0)),(.int .i64 (.lit 0)),(.int .i64 (.lit 0)),(.int .i64 (.lit 0)),(.int .i64 (.lit 0)),(.int .i64 (.lit 0)),(.int .i64 (.lit 0)),(.int .i64 (.lit 0)),(.int .i64 (.lit 0)),(.int .i64 (.lit 0)),.nilslice],.ptr,1)),[]⟩,
 ⟨⟨some 10,true,none,ay 27 [(.int .i64 (.lit 0)),(.int .i64 (.lit 0)),(.int .i64 (.lit 0)),(.int .i64 (.lit 0)),(.int .i64 (.lit 0)),(.int .i64 (.lit 0)),(.int .i64 (.lit 0)),(.int .i64 (.lit 0)),(.int .i64 (.lit 0)),(.int .i64 (.lit 0)),(.int .i64 (.lit 0)),(.int .i64 (.lit 0)),(.int .i64 (.lit 0)),(.int .i64 (.lit 0)),(.int .i64 (.lit 0)),(.int .i64 (.lit 0)),(.int .i64 (.lit 0)),(.int .i64 (.lit 0)),(.int .i64 (.lit 0)),(.int .i64 (.lit 0)),(.int .i64 (.lit 0)),(.int .i64 (.lit 0)),.nilslice]⟩,[],false,0,4,(some (gY [(.int .i64 (.lit 0)),(.int .i64 (.lit 0)),(.int .i64 (.lit 0)),(.int .i64 (.lit 0)),(.int .i64 (.lit 0)),(.int .i64 (.lit 0)),(.int .i64 (.lit 0)),(.int .i64 (.lit 0)),(.int .i64 (.lit 0)),(.int .i64 (.lit 0)),(.int .i64 (.lit 0)),(.int .i64 (.lit 0)),(.int .i64 (.lit 0)),(.int .i64 (.lit 0)),(.int .i64 (.lit 0)),(.int .i64 (.lit 0)),(.int .i64 (.lit 0)),(.int .i64 (.lit 0)),(.int .i64 (.lit 0)),(.int .i64 (.lit 0)),(.int .i64 (.lit 0)),(.int .i64 (.lit 0)),.nilslice],.ptr,0)),[]⟩,
 ⟨⟨none,false,none,aj 23 (.t 9) (.t 33)⟩,[9,33],true,2,0,none,[0,1]⟩,
 ⟨⟨none,false,none,aj 23 (.t 10) (.t 35)⟩,[10,35],true,3,0,none,[0,1]⟩])
 (ae (dOps 2 [⟨⟨some 36,false,none,ac 23 (.t 9)⟩,[9],false,0,0,none,[]⟩,
 ⟨⟨some 37,false,none,ab (.t 7)⟩,[7],false,0,0,none,[]⟩,
 ⟨⟨some 38,false,none,ar (.c (.func (.func 13) [] [])) [(.t 36),(.t 37),(.c .nilslice)]⟩,[36,37],true,0,0,none,[]⟩,
 ⟨⟨some 39,false,none,ac 23 (.t 10)⟩,[10],false,0,1,none,[]⟩,
 ⟨⟨some 40,false,none,ab (.t 7)⟩,[7],false,0,1,none,[]⟩,
 ⟨⟨some 41,false,none,ar (.c (.func (.func 13) [] [])) [(.t 39),(.t 40),(.c .nilslice)]⟩,[39,40],true,1,0,none,[]⟩,
 ⟨⟨some 11,true,none,ay 45 [.nilslice,.nilslice,(.int .i64 (.lit 0))]⟩,[],false,0,4,(some (gY [.nilslice,.nilslice,(.int .i64 (.lit 0))],.ptr,1)),[]⟩,
 ⟨⟨some 12,true,none,ay 45 [.nilslice,.nilslice,(.int .i64 (.lit 0))]⟩,[],false,0,4,(some (gY [.nilslice,.nilslice,(.int .i64 (.lit 0))],.ptr,0)),[]⟩,
 ⟨⟨none,false,none,aj 3 (.t 11) (.t 38)⟩,[11,38],true,2,0,none,[0,1]⟩,
 ⟨⟨none,false,none,aj 3 (.t 12) (.t 41)⟩,[12,41],true,3,0,none,[0,1]⟩])
 (ae (al [⟨some 43,false,none,ac 23 (.t 3)⟩,
 ⟨some 44,false,none,ab (.t 7)⟩,
 ⟨some 45,false,none,ar (.c (.func (.func 16) [] [])) [(.t 43),(.t 44)]⟩,
 ⟨some 42,false,none,ab (.t 45)⟩,
 ⟨some 46,false,none,ao 0 (.t 42)⟩,
 ⟨some 47,false,none,ao 1 (.t 42)⟩,
 ⟨some 13,true,none,ab (.t 46)⟩,
 ⟨some 14,true,none,ab (.t 47)⟩])
 (ae (ae (al [⟨some 48,false,none,ab (.t 14)⟩,
 ⟨some 49,true,none,bF .eql (.t 48) (.c (.int .i64 (.lit 4)))⟩])
 (aO (.t 49) (al [⟨some 50,false,none,aa 22 (.t 3)⟩,
 ⟨some 51,false,none,au (.t 50)⟩,
 ⟨some 52,false,none,cO (.t 51)⟩,
 ⟨some 13,true,none,ab (.t 52)⟩]) (ae (al [⟨some 53,false,none,ab (.t 14)⟩,
 ⟨some 54,true,none,bF .neq (.t 53) (.c (.int .i64 (.lit 0)))⟩])
 (aO (.t 54) (ae (al [⟨some 6,true,none,ab (.c (.bool (.lit false)))⟩])
 bg) aM))))
 (ae (al [⟨some 56,false,none,ac 23 (.t 3)⟩,
 ⟨some 57,false,none,ab (.t 7)⟩,
 ⟨some 58,false,none,ab (.t 8)⟩,
 ⟨some 59,false,none,ar (.c (.func (.func 19) [] [])) [(.t 56),(.t 57),(.t 58)]⟩,
 ⟨some 55,false,none,ab (.t 59)⟩,
 ⟨some 60,false,none,ao 0 (.t 55)⟩,
 ⟨some 61,false,none,ao 1 (.t 55)⟩,
 ⟨some 62,false,none,ao 2 (.t 55)⟩,
 ⟨some 15,true,none,ay 23 [(.int .i64 (.lit 0)),(.int .i64 (.lit 0))]⟩,
 ⟨some 16,true,none,ay 23 [(.int .i64 (.lit 0)),(.int .i64 (.lit 0))]⟩,
 ⟨none,false,none,aj 2 (.t 15) (.t 60)⟩,
 ⟨none,false,none,aj 2 (.t 16) (.t 61)⟩,
 ⟨some 14,true,none,ab (.t 62)⟩])
 (ae (ae (al [⟨some 63,false,none,ab (.t 14)⟩,
 ⟨some 64,true,none,bF .eql (.t 63) (.c (.int .i64 (.lit 0)))⟩])
 (aO (.t 64) (ae (dOps 0 [⟨⟨some 65,false,none,ab (.t 8)⟩,[8],false,0,0,none,[]⟩,
 ⟨⟨some 66,false,none,aa 0 (.t 11)⟩,[11],false,0,0,none,[]⟩,
 ⟨⟨some 67,false,none,au (.t 66)⟩,[66],false,0,0,none,[]⟩,
 ⟨⟨some 68,false,none,cO (.t 67)⟩,[67],false,0,0,none,[]⟩,
 ⟨⟨some 69,false,none,bF .geq (.t 65) (.t 68)⟩,[65,68],false,0,0,none,[]⟩,
 ⟨⟨some 70,false,none,ab (.t 69)⟩,[69],false,0,0,none,[]⟩,
 ⟨⟨some 71,false,some (70,false),ab (.t 8)⟩,[70,8],false,0,0,none,[]⟩,
 ⟨⟨some 72,false,some (70,false),aa 0 (.t 12)⟩,[70,12],false,0,0,none,[]⟩,
 ⟨⟨some 73,false,some (70,false),au (.t 72)⟩,[70,72],false,0,0,none,[]⟩,
 ⟨⟨some 74,false,some (70,false),cO (.t 73)⟩,[70,73],false,0,0,none,[]⟩,
 ⟨⟨some 75,false,some (70,false),bF .geq (.t 71) (.t 74)⟩,[70,71,74],false,0,0,none,[]⟩,
 ⟨⟨some 76,false,none,aR (.t 70) (.c (.bool (.lit true))) (.t 75)⟩,[70,75],false,0,0,none,[]⟩,
 ⟨⟨some 77,false,none,ab (.t 76)⟩,[76],false,0,0,none,[]⟩,
 ⟨⟨some 78,false,some (77,false),ac 2 (.t 15)⟩,[77,15],false,0,1,none,[]⟩,
 ⟨⟨some 79,false,some (77,false),aa 0 (.t 11)⟩,[77,11],false,0,0,none,[]⟩,
 ⟨⟨some 80,false,some (77,false),au (.t 79)⟩,[77,79],false,0,0,none,[]⟩,
 ⟨⟨some 81,false,some (77,false),ab (.t 8)⟩,[77,8],false,0,0,none,[]⟩,
 ⟨⟨some 82,false,some (77,false),bw 1 (.t 80) (.t 81)⟩,[77,80,81],false,0,0,none,[]⟩,
 ⟨⟨some 83,false,some (77,false),au (.t 82)⟩,[77,82],false,0,0,none,[]⟩,
 ⟨⟨some 84,false,some (77,false),aa 0 (.t 12)⟩,[77,12],false,0,0,none,[]⟩,
 ⟨⟨some 85,false,some (77,false),au (.t 84)⟩,[77,84],false,0,0,none,[]⟩,
 ⟨⟨some 86,false,some (77,false),ab (.t 8)⟩,[77,8],false,0,0,none,[]⟩,
 ⟨⟨some 87,false,some (77,false),bw 1 (.t 85) (.t 86)⟩,[77,85,86],false,0,0,none,[]⟩,
 ⟨⟨some 88,false,some (77,false),au (.t 87)⟩,[77,87],false,0,0,none,[]⟩,
 ⟨⟨some 89,false,some (77,false),ar (.c (.func (.func 20) [] [])) [(.t 83),(.t 88)]⟩,[77,83,88],true,0,0,none,[]⟩,
 ⟨⟨some 90,false,some (77,false),iEq true true 2 [(0,.int),(1,.int)] (.t 78) (.t 89)⟩,[77,78,89],false,1,1,none,[]⟩,
 ⟨⟨some 91,false,none,aR (.t 77) (.c (.bool (.lit true))) (.t 90)⟩,[77,90],false,1,1,none,[]⟩,
 ⟨⟨some 92,false,none,ab (.t 91)⟩,[91],false,1,1,none,[]⟩,
 ⟨⟨some 93,false,some (92,false),ac 2 (.t 16)⟩,[92,16],false,1,2,none,[]⟩,
 ⟨⟨some 94,false,some (92,false),aa 1 (.t 11)⟩,[92,11],false,1,1,none,[]⟩,
 ⟨⟨some 95,false,some (92,false),au (.t 94)⟩,[92,94],false,1,1,none,[]⟩,
 ⟨⟨some 96,false,some (92,false),ab (.t 8)⟩,[92,8],false,1,1,none,[]⟩,
 ⟨⟨some 97,false,some (92,false),bw 1 (.t 95) (.t 96)⟩,[92,95,96],false,1,1,none,[]⟩,
 ⟨⟨some 98,false,some (92,false),au (.t 97)⟩,[92,97],false,1,1,none,[]⟩,
 ⟨⟨some 99,false,some (92,false),aa 1 (.t 12)⟩,[92,12],false,1,1,none,[]⟩,
 ⟨⟨some 100,false,some (92,false),au (.t 99)⟩,[92,99],false,1,1,none,[]⟩,
 ⟨⟨some 101,false,some (92,false),ab (.t 8)⟩,[92,8],false,1,1,none,[]⟩,
 ⟨⟨some 102,false,some (92,false),bw 1 (.t 100) (.t 101)⟩,[92,100,101],false,1,1,none,[]⟩,
 ⟨⟨some 103,false,some (92,false),au (.t 102)⟩,[92,102],false,1,1,none,[]⟩,
 ⟨⟨some 104,false,some (92,false),ar (.c (.func (.func 20) [] [])) [(.t 98),(.t 103)]⟩,[92,98,103],true,1,0,none,[]⟩,
 ⟨⟨some 105,false,some (92,false),iEq true true 2 [(0,.int),(1,.int)] (.t 93) (.t 104)⟩,[92,93,104],false,2,2,none,[]⟩,
 ⟨⟨some 106,true,none,aR (.t 92) (.c (.bool (.lit true))) (.t 105)⟩,[92,105],false,2,2,none,[]⟩])
 (aO (.t 106) (ae (al [⟨some 6,true,none,ab (.c (.bool (.lit false)))⟩])
 bg) aM)) (ae (al [⟨some 107,false,none,ab (.t 14)⟩,
 ⟨some 108,false,none,bF .neq (.t 107) (.c (.int .i64 (.lit 42)))⟩,
 ⟨some 109,false,none,ab (.t 108)⟩,
 ⟨some 110,false,some (109,false),ab (.t 8)⟩,
 ⟨some 111,false,some (109,false),aa 0 (.t 11)⟩,
 ⟨some 112,false,some (109,false),au (.t 111)⟩,
 ⟨some 113,false,some (109,false),cO (.t 112)⟩,
 ⟨some 114,false,some (109,false),bF .lss (.t 110) (.t 113)⟩,
 ⟨some 115,false,none,aR (.t 109) (.c (.bool (.lit true))) (.t 114)⟩,
 ⟨some 116,false,none,ab (.t 115)⟩,
 ⟨some 117,false,some (116,false),aa 2 (.t 11)⟩,
 ⟨some 118,false,some (116,false),au (.t 117)⟩,
 ⟨some 119,false,some (116,false),ab (.t 8)⟩,
 ⟨some 120,false,some (116,false),bF .gtr (.t 118) (.t 119)⟩,
 ⟨some 121,true,none,aR (.t 116) (.c (.bool (.lit true))) (.t 120)⟩])
 (aO (.t 121) (ae (al [⟨some 6,true,none,ab (.c (.bool (.lit false)))⟩])
 bg) aM))))
 (ae (al [⟨some 123,false,none,ac 23 (.t 3)⟩,
 ⟨some 124,false,none,ar (.c (.func (.func 9) [] [])) [(.t 123)]⟩,
 ⟨some 122,false,none,ab (.t 124)⟩,
 ⟨some 125,false,none,ao 0 (.t 122)⟩,
 ⟨some 126,false,none,ao 1 (.t 122)⟩,
 ⟨some 17,true,none,ab (.t 125)⟩,
 ⟨some 14,true,none,ab (.t 126)⟩])
 (ae (al [⟨some 128,false,none,ac 23 (.t 9)⟩,
 ⟨some 129,false,none,ar (.c (.func (.func 9) [] [])) [(.t 128)]⟩,
 ⟨some 127,false,none,ab (.t 129)⟩,
 ⟨some 130,false,none,ao 0 (.t 127)⟩,
 ⟨some 131,false,none,ao 1 (.t 127)⟩,
 ⟨some 18,true,none,ab (.t 130)⟩,
 ⟨some 19,true,none,ab (.t 131)⟩])
 (ae (al [⟨some 132,false,none,ab (.t 13)⟩,
 ⟨some 133,false,none,aa 2 (.t 11)⟩,
 ⟨some 134,false,none,au (.t 133)⟩,
 ⟨some 135,false,none,bF .eql (.t 132) (.t 134)⟩,
 ⟨some 136,false,none,ab (.t 135)⟩,
 ⟨some 137,false,some (136,true),ab (.t 14)⟩,
 ⟨some 138,false,some (136,true),ab (.t 19)⟩,
 ⟨some 139,false,some (136,true),bF .eql (.t 137) (.t 138)⟩,
 ⟨some 140,false,none,aR (.t 136) (.t 139) (.c (.bool (.lit false)))⟩,
 ⟨some 141,false,none,ab (.t 140)⟩,
 ⟨some 142,false,some (141,true),ab (.t 17)⟩,
 ⟨some 143,false,some (141,true),ab (.t 18)⟩,
 ⟨some 144,false,some (141,true),ar (.c (.func (.func 21) [] [])) [(.t 142),(.t 143)]⟩,
 ⟨some 145,false,none,aR (.t 141) (.t 144) (.c (.bool (.lit false)))⟩,
 ⟨some 146,false,none,ab (.t 145)⟩,
 ⟨some 147,false,some (146,true),ar (.c (.func (.func 7) [] [])) []⟩,
 ⟨some 148,false,none,aR (.t 146) (.t 147) (.c (.bool (.lit false)))⟩,
 ⟨some 6,true,none,ab (.t 148)⟩])
 bg)))))))))))),[.t 6]⟩
noncomputable def Tryd.kp6:List Nat:=[0,1,2,3,4,5,73,98]
noncomputable def Tryd.cf6:CF:=⟨1,(ae (al [⟨some 1,true,none,cT 27 (.t 0)⟩,
 ⟨some 2,true,none,ab (.c (.bool (.lit false)))⟩])
 (ae (al [⟨some 6,false,none,ac 23 (.t 1)⟩,
 ⟨some 7,false,none,ar (.c (.func (.func 22) [] [])) [(.t 6)]⟩,
 ⟨some 8,false,none,bF .eql (.t 7) (.c (.int .i64 (.lit 0)))⟩,
 ⟨some 9,false,none,ab (.t 8)⟩,
 ⟨some 10,false,some (9,true),aa 4 (.t 1)⟩,
 ⟨some 11,false,some (9,true),au (.t 10)⟩,
 ⟨some 12,false,some (9,true),ar (.c (.func (.func 17) [] [])) [(.t 11),(.c (.int .i64 (.lit 1))),(.c (.int .i64 (.lit 99)))]⟩,
 ⟨some 13,false,none,aR (.t 9) (.t 12) (.c (.bool (.lit false)))⟩,
 ⟨some 14,false,none,ab (.t 13)⟩,
 ⟨some 15,false,some (14,true),aa 5 (.t 1)⟩,
 ⟨some 16,false,some (14,true),au (.t 15)⟩,
 ⟨some 17,false,some (14,true),ar (.c (.func (.func 17) [] [])) [(.t 16),(.c (.int .i64 (.lit 1))),(.c (.int .i64 (.lit 99)))]⟩,
 ⟨some 18,false,none,aR (.t 14) (.t 17) (.c (.bool (.lit false)))⟩,
 ⟨some 19,false,none,ab (.t 18)⟩,
 ⟨some 20,false,some (19,true),aa 0 (.t 1)⟩,
 ⟨some 21,false,some (19,true),ac 2 (.t 20)⟩,
 ⟨some 22,false,some (19,true),aa 4 (.t 1)⟩,
 ⟨some 23,false,some (19,true),au (.t 22)⟩,
 ⟨some 24,false,some (19,true),ar (.c (.func (.func 23) [] [])) [(.t 21),(.c (.int .i64 (.lit 0))),(.t 23)]⟩,
 ⟨some 25,false,none,aR (.t 19) (.t 24) (.c (.bool (.lit false)))⟩,
 ⟨some 26,false,none,ab (.t 25)⟩,
 ⟨some 27,false,some (26,true),aa 2 (.t 1)⟩,
 ⟨some 28,false,some (26,true),ac 2 (.t 27)⟩,
 ⟨some 29,false,some (26,true),aa 5 (.t 1)⟩,
 ⟨some 30,false,some (26,true),au (.t 29)⟩,
 ⟨some 31,false,some (26,true),ar (.c (.func (.func 23) [] [])) [(.t 28),(.c (.int .i64 (.lit 0))),(.t 30)]⟩,
 ⟨some 32,false,none,aR (.t 26) (.t 31) (.c (.bool (.lit false)))⟩,
 ⟨some 33,false,none,ab (.t 32)⟩,
 ⟨some 34,false,some (33,true),aa 6 (.t 1)⟩,
 ⟨some 35,false,some (33,true),au (.t 34)⟩,
 ⟨some 36,false,some (33,true),ar (.c (.func (.func 17) [] [])) [(.t 35),(.c (.int .i64 (.lit 1))),(.c (.int .i64 (.lit 20)))]⟩,
 ⟨some 37,false,none,aR (.t 33) (.t 36) (.c (.bool (.lit false)))⟩,
 ⟨some 38,false,none,ab (.t 37)⟩,
 ⟨some 39,false,some (38,true),aa 7 (.t 1)⟩,
 ⟨some 40,false,some (38,true),au (.t 39)⟩,
 ⟨some 41,false,some (38,true),ar (.c (.func (.func 17) [] [])) [(.t 40),(.c (.int .i64 (.lit 1))),(.c (.int .i64 (.lit 20)))]⟩,
 ⟨some 42,false,none,aR (.t 38) (.t 41) (.c (.bool (.lit false)))⟩,
 ⟨some 3,true,none,ab (.t 42)⟩])
 (ae (al [⟨some 43,false,none,ab (.t 3)⟩,
 ⟨some 44,false,none,ab (.t 43)⟩,
 ⟨some 45,false,some (44,true),aa 16 (.t 1)⟩,
 ⟨some 46,false,some (44,true),ac 2 (.t 45)⟩,
 ⟨some 47,false,some (44,true),ar (.c (.func (.func 23) [] [])) [(.t 46),(.c (.int .i64 (.lit 0))),(.c (.int .i64 (.lit 60)))]⟩,
 ⟨some 48,false,none,aR (.t 44) (.t 47) (.c (.bool (.lit false)))⟩,
 ⟨some 49,false,none,ab (.t 48)⟩,
 ⟨some 50,false,some (49,true),aa 18 (.t 1)⟩,
 ⟨some 51,false,some (49,true),ac 2 (.t 50)⟩,
 ⟨some 52,false,some (49,true),ar (.c (.func (.func 23) [] [])) [(.t 51),(.c (.int .i64 (.lit 0))),(.c (.int .i64 (.lit 60)))]⟩,
 ⟨some 53,false,none,aR (.t 49) (.t 52) (.c (.bool (.lit false)))⟩,
 ⟨some 54,false,none,ab (.t 53)⟩,
 ⟨some 55,false,some (54,true),aa 20 (.t 1)⟩,
 ⟨some 56,false,some (54,true),au (.t 55)⟩,
 ⟨some 57,false,some (54,true),aa 5 (.t 1)⟩,
 ⟨some 58,false,some (54,true),au (.t 57)⟩,
 ⟨some 59,false,some (54,true),ar (.c (.func (.func 17) [] [])) [(.t 56),(.c (.int .i64 (.lit 0))),(.t 58)]⟩,
 ⟨some 60,false,none,aR (.t 54) (.t 59) (.c (.bool (.lit false)))⟩,
 ⟨some 61,false,none,ab (.t 60)⟩,
 ⟨some 62,false,some (61,true),aa 21 (.t 1)⟩,
 ⟨some 63,false,some (61,true),au (.t 62)⟩,
 ⟨some 64,false,some (61,true),ar (.c (.func (.func 17) [] [])) [(.t 63),(.c (.int .i64 (.lit 0))),(.c (.int .i64 (.lit 60)))]⟩,
 ⟨some 65,false,none,aR (.t 61) (.t 64) (.c (.bool (.lit false)))⟩,
 ⟨some 66,false,none,ab (.t 65)⟩,
 ⟨some 67,false,some (66,true),aa 22 (.t 1)⟩,
 ⟨some 68,false,some (66,true),au (.t 67)⟩,
 ⟨some 69,false,some (66,true),cO (.t 68)⟩,
 ⟨some 70,false,some (66,true),ar (.c (.func (.func 17) [] [])) [(.t 69),(.c (.int .i64 (.lit 1))),(.c (.int .i64 (.lit 5)))]⟩,
 ⟨some 71,false,none,aR (.t 66) (.t 70) (.c (.bool (.lit false)))⟩,
 ⟨some 3,true,none,ab (.t 71)⟩])
 (ae (ae (al [⟨some 4,true,none,ab (.c (.int .i64 (.lit 0)))⟩])
 (aL 0 (eP (ae (ae (al [⟨some 72,false,none,ab (.t 4)⟩,
 ⟨some 73,true,none,bF .lss (.t 72) (.c (.int .i64 (.lit 2)))⟩])
 (aO (.t 73) aM (dE 0)))
 (ae (aL 1 (al [⟨some 76,false,none,ab (.t 3)⟩,
 ⟨some 77,false,none,ab (.t 76)⟩,
 ⟨some 78,false,some (77,true),ab (.t 4)⟩,
 ⟨some 79,false,some (77,true),aa 8 (.t 1)⟩,
 ⟨some 80,false,some (77,true),bB 2 2 (.t 79) (.t 78)⟩,
 ⟨some 81,false,some (77,true),ac 2 (.t 80)⟩,
 ⟨some 82,false,some (77,true),ar (.c (.func (.func 23) [] [])) [(.t 81),(.c (.int .i64 (.lit 0))),(.c (.int .i64 (.lit 3)))]⟩,
 ⟨some 83,false,none,aR (.t 77) (.t 82) (.c (.bool (.lit false)))⟩,
 ⟨some 84,false,none,ab (.t 83)⟩,
 ⟨some 85,false,some (84,true),ab (.t 4)⟩,
 ⟨some 86,false,some (84,true),aa 12 (.t 1)⟩,
 ⟨some 87,false,some (84,true),bB 2 2 (.t 86) (.t 85)⟩,
 ⟨some 88,false,some (84,true),ac 2 (.t 87)⟩,
 ⟨some 89,false,some (84,true),ar (.c (.func (.func 23) [] [])) [(.t 88),(.c (.int .i64 (.lit 0))),(.c (.int .i64 (.lit 3)))]⟩,
 ⟨some 90,false,none,aR (.t 84) (.t 89) (.c (.bool (.lit false)))⟩,
 ⟨some 3,true,none,ab (.t 90)⟩]))
 (al [⟨some 74,false,none,ab (.t 4)⟩,
 ⟨some 75,false,none,aF .add (.t 74) (.c (.int .i64 (.lit 1)))⟩,
 ⟨some 4,true,none,ab (.t 75)⟩]))))))
 (ae (ae (al [⟨some 5,true,none,ab (.c (.int .i64 (.lit 0)))⟩])
 (aL 2 (eP (ae (ae (al [⟨some 91,false,none,ab (.t 3)⟩,
 ⟨some 92,false,none,ab (.t 91)⟩,
 ⟨some 93,false,some (92,true),ab (.t 5)⟩,
 ⟨some 94,false,some (92,true),aa 22 (.t 1)⟩,
 ⟨some 95,false,some (92,true),au (.t 94)⟩,
 ⟨some 96,false,some (92,true),cO (.t 95)⟩,
 ⟨some 97,false,some (92,true),bF .lss (.t 93) (.t 96)⟩,
 ⟨some 98,true,none,aR (.t 92) (.t 97) (.c (.bool (.lit false)))⟩])
 (aO (.t 98) aM (dE 2)))
 (ae (aL 3 (al [⟨some 101,false,none,aa 22 (.t 1)⟩,
 ⟨some 102,false,none,au (.t 101)⟩,
 ⟨some 103,false,none,ab (.t 5)⟩,
 ⟨some 104,false,none,bw 4 (.t 102) (.t 103)⟩,
 ⟨some 105,false,none,aa 0 (.t 104)⟩,
 ⟨some 106,false,none,ac 2 (.t 105)⟩,
 ⟨some 107,false,none,ar (.c (.func (.func 23) [] [])) [(.t 106),(.c (.int .i64 (.lit 1))),(.c (.int .i64 (.lit 60)))]⟩,
 ⟨some 108,false,none,ab (.t 107)⟩,
 ⟨some 109,false,some (108,true),aa 22 (.t 1)⟩,
 ⟨some 110,false,some (108,true),au (.t 109)⟩,
 ⟨some 111,false,some (108,true),ab (.t 5)⟩,
 ⟨some 112,false,some (108,true),bw 4 (.t 110) (.t 111)⟩,
 ⟨some 113,false,some (108,true),aa 3 (.t 112)⟩,
 ⟨some 114,false,some (108,true),au (.t 113)⟩,
 ⟨some 115,false,some (108,true),ar (.c (.func (.func 17) [] [])) [(.t 114),(.c (.int .i64 (.lit 0))),(.c (.int .i64 (.lit 5)))]⟩,
 ⟨some 116,false,none,aR (.t 108) (.t 115) (.c (.bool (.lit false)))⟩,
 ⟨some 3,true,none,ab (.t 116)⟩]))
 (al [⟨some 99,false,none,ab (.t 5)⟩,
 ⟨some 100,false,none,aF .add (.t 99) (.c (.int .i64 (.lit 1)))⟩,
 ⟨some 5,true,none,ab (.t 100)⟩]))))))
 (ae (al [⟨some 117,false,none,ab (.t 3)⟩,
 ⟨some 2,true,none,ab (.t 117)⟩])
 bg)))))),[.t 2]⟩
noncomputable def Tryd.kp7:List Nat:=[0,1,2,3,4,5,6,7,8,9,10,11,12,74]
noncomputable def Tryd.cf7:CF:=⟨0,(ae (al [⟨some 0,true,none,ab (.c (.bool (.lit false)))⟩])
 (ae (al [⟨some 14,false,none,ar (.c (.func (.func 25) [] [])) []⟩,
 ⟨some 15,false,none,ar (.c (.func (.func 24) [] [])) [(.t 14),(.c (.int .i64 (.lit 9)))]⟩,
 ⟨some 13,false,none,ab (.t 15)⟩,
 ⟨some 16,false,none,ao 0 (.t 13)⟩,
 ⟨some 17,false,none,ao 1 (.t 13)⟩,
 ⟨some 1,true,none,ay 23 [(.int .i64 (.lit 0)),(.int .i64 (.lit 0))]⟩,
 ⟨none,false,none,aj 2 (.t 1) (.t 16)⟩,
 ⟨some 2,true,none,ab (.t 17)⟩])
 (ae (al [⟨some 19,false,none,ar (.c (.func (.func 25) [] [])) []⟩,
 ⟨some 20,false,none,ar (.c (.func (.func 26) [] [])) []⟩,
 ⟨some 21,false,none,ar (.c (.func (.func 19) [] [])) [(.t 19),(.t 20),(.c (.int .i64 (.lit 3)))]⟩,
 ⟨some 18,false,none,ab (.t 21)⟩,
 ⟨some 22,false,none,ao 0 (.t 18)⟩,
 ⟨some 23,false,none,ao 1 (.t 18)⟩,
 ⟨some 24,false,none,ao 2 (.t 18)⟩,
 ⟨some 3,true,none,ay 23 [(.int .i64 (.lit 0)),(.int .i64 (.lit 0))]⟩,
 ⟨some 4,true,none,ay 23 [(.int .i64 (.lit 0)),(.int .i64 (.lit 0))]⟩,
 ⟨none,false,none,aj 2 (.t 3) (.t 22)⟩,
 ⟨none,false,none,aj 2 (.t 4) (.t 23)⟩,
 ⟨some 5,true,none,ab (.t 24)⟩])
 (ae (al [⟨some 26,false,none,ar (.c (.func (.func 25) [] [])) []⟩,
 ⟨some 27,false,none,ar (.c (.func (.func 27) [] [])) []⟩,
 ⟨some 28,false,none,ar (.c (.func (.func 16) [] [])) [(.t 26),(.t 27)]⟩,
 ⟨some 25,false,none,ab (.t 28)⟩,
 ⟨some 29,false,none,ao 0 (.t 25)⟩,
 ⟨some 30,false,none,ao 1 (.t 25)⟩,
 ⟨some 6,true,none,ab (.t 29)⟩,
 ⟨some 7,true,none,ab (.t 30)⟩])
 (ae (al [⟨some 32,false,none,ar (.c (.func (.func 25) [] [])) []⟩,
 ⟨some 33,false,none,ar (.c (.func (.func 9) [] [])) [(.t 32)]⟩,
 ⟨some 31,false,none,ab (.t 33)⟩,
 ⟨some 34,false,none,ao 0 (.t 31)⟩,
 ⟨some 35,false,none,ao 1 (.t 31)⟩,
 ⟨some 8,true,none,ab (.t 34)⟩,
 ⟨some 9,true,none,ab (.t 35)⟩])
 (ae (ae (dOps 0 [⟨⟨some 36,false,none,ab (.t 2)⟩,[2],false,0,0,none,[]⟩,
 ⟨⟨some 37,false,none,bF .neq (.t 36) (.c (.int .i64 (.lit 0)))⟩,[36],false,0,0,none,[]⟩,
 ⟨⟨some 38,false,none,ab (.t 37)⟩,[37],false,0,0,none,[]⟩,
 ⟨⟨some 39,false,some (38,false),ab (.t 5)⟩,[38,5],false,0,0,none,[]⟩,
 ⟨⟨some 40,false,some (38,false),bF .neq (.t 39) (.c (.int .i64 (.lit 0)))⟩,[38,39],false,0,0,none,[]⟩,
 ⟨⟨some 41,false,none,aR (.t 38) (.c (.bool (.lit true))) (.t 40)⟩,[38,40],false,0,0,none,[]⟩,
 ⟨⟨some 42,false,none,ab (.t 41)⟩,[41],false,0,0,none,[]⟩,
 ⟨⟨some 43,false,some (42,false),ab (.t 7)⟩,[42,7],false,0,0,none,[]⟩,
 ⟨⟨some 44,false,some (42,false),bF .neq (.t 43) (.c (.int .i64 (.lit 0)))⟩,[42,43],false,0,0,none,[]⟩,
 ⟨⟨some 45,false,none,aR (.t 42) (.c (.bool (.lit true))) (.t 44)⟩,[42,44],false,0,0,none,[]⟩,
 ⟨⟨some 46,false,none,ab (.t 45)⟩,[45],false,0,0,none,[]⟩,
 ⟨⟨some 47,false,some (46,false),ab (.t 9)⟩,[46,9],false,0,0,none,[]⟩,
 ⟨⟨some 48,false,some (46,false),bF .neq (.t 47) (.c (.int .i64 (.lit 0)))⟩,[46,47],false,0,0,none,[]⟩,
 ⟨⟨some 49,false,none,aR (.t 46) (.c (.bool (.lit true))) (.t 48)⟩,[46,48],false,0,0,none,[]⟩,
 ⟨⟨some 50,false,none,ab (.t 49)⟩,[49],false,0,0,none,[]⟩,
 ⟨⟨some 51,false,some (50,false),ac 2 (.t 1)⟩,[50,1],false,0,1,none,[]⟩,
 ⟨⟨some 52,false,some (50,false),ar (.c (.func (.func 20) [] [])) [(.c (.int .i64 (.lit 12))),(.c (.int .i64 (.lit 16)))]⟩,[50],true,0,0,none,[]⟩,
 ⟨⟨some 53,false,some (50,false),iEq true true 2 [(0,.int),(1,.int)] (.t 51) (.t 52)⟩,[50,51,52],false,1,1,none,[]⟩,
 ⟨⟨some 54,false,none,aR (.t 50) (.c (.bool (.lit true))) (.t 53)⟩,[50,53],false,1,1,none,[]⟩,
 ⟨⟨some 55,false,none,ab (.t 54)⟩,[54],false,1,1,none,[]⟩,
 ⟨⟨some 56,false,some (55,false),ac 2 (.t 3)⟩,[55,3],false,1,2,none,[]⟩,
 ⟨⟨some 57,false,some (55,false),ar (.c (.func (.func 20) [] [])) [(.c (.int .i64 (.lit 0))),(.c (.int .i64 (.lit 32)))]⟩,[55],true,1,0,none,[]⟩,
 ⟨⟨some 58,false,some (55,false),iEq true true 2 [(0,.int),(1,.int)] (.t 56) (.t 57)⟩,[55,56,57],false,2,2,none,[]⟩,
 ⟨⟨some 59,false,none,aR (.t 55) (.c (.bool (.lit true))) (.t 58)⟩,[55,58],false,2,2,none,[]⟩,
 ⟨⟨some 60,false,none,ab (.t 59)⟩,[59],false,2,2,none,[]⟩,
 ⟨⟨some 61,false,some (60,false),ac 2 (.t 4)⟩,[60,4],false,2,3,none,[]⟩,
 ⟨⟨some 62,false,some (60,false),ar (.c (.func (.func 20) [] [])) [(.c (.int .i64 (.lit 10))),(.c (.int .i64 (.lit 22)))]⟩,[60],true,2,0,none,[]⟩,
 ⟨⟨some 63,false,some (60,false),iEq true true 2 [(0,.int),(1,.int)] (.t 61) (.t 62)⟩,[60,61,62],false,3,3,none,[]⟩,
 ⟨⟨some 64,false,none,aR (.t 60) (.c (.bool (.lit true))) (.t 63)⟩,[60,63],false,3,3,none,[]⟩,
 ⟨⟨some 65,false,none,ab (.t 64)⟩,[64],false,3,3,none,[]⟩,
 ⟨⟨some 66,false,some (65,false),ab (.t 6)⟩,[65,6],false,3,3,none,[]⟩,
 ⟨⟨some 67,false,some (65,false),bF .neq (.t 66) (.c (.int .i64 (.lit 1)))⟩,[65,66],false,3,3,none,[]⟩,
 ⟨⟨some 68,false,none,aR (.t 65) (.c (.bool (.lit true))) (.t 67)⟩,[65,67],false,3,3,none,[]⟩,
 ⟨⟨some 69,false,none,ab (.t 68)⟩,[68],false,3,3,none,[]⟩,
 ⟨⟨some 70,false,some (69,false),ab (.t 8)⟩,[69,8],false,3,4,none,[]⟩,
 ⟨⟨some 71,false,some (69,false),ar (.c (.func (.func 26) [] [])) []⟩,[69],true,3,0,none,[]⟩,
 ⟨⟨some 72,false,some (69,false),ar (.c (.func (.func 21) [] [])) [(.t 70),(.t 71)]⟩,[69,70,71],true,4,0,none,[]⟩,
 ⟨⟨some 73,false,some (69,false),iNot (.t 72)⟩,[69,72],false,5,5,none,[]⟩,
 ⟨⟨some 74,true,none,aR (.t 69) (.c (.bool (.lit true))) (.t 73)⟩,[69,73],false,5,5,none,[]⟩])
 (aO (.t 74) (ae (al [⟨some 0,true,none,ab (.c (.bool (.lit false)))⟩])
 bg) aM))
 (ae (al [⟨some 76,false,none,ar (.c (.func (.func 25) [] [])) []⟩,
 ⟨some 77,false,none,ar (.c (.func (.func 10) [] [])) [(.t 76)]⟩,
 ⟨some 75,false,none,ab (.t 77)⟩,
 ⟨some 78,false,none,ao 0 (.t 75)⟩,
 ⟨some 79,false,none,ao 1 (.t 75)⟩,
 ⟨some 10,true,none,ab (.t 78)⟩,
 ⟨some 2,true,none,ab (.t 79)⟩])
 (ae (al [⟨some 81,false,none,ar (.c (.func (.func 25) [] [])) []⟩,
 ⟨some 82,false,none,ar (.c (.func (.func 28) [] [])) [(.t 81),(.c (.int .i64 (.lit 2)))]⟩,
 ⟨some 80,false,none,ab (.t 82)⟩,
 ⟨some 83,false,none,ao 0 (.t 80)⟩,
 ⟨some 84,false,none,ao 1 (.t 80)⟩,
 ⟨some 11,true,none,ab (.t 83)⟩,
 ⟨some 5,true,none,ab (.t 84)⟩])
 (ae (al [⟨some 86,false,none,ar (.c (.func (.func 25) [] [])) []⟩,
 ⟨some 87,false,none,ar (.c (.func (.func 29) [] [])) [(.t 86)]⟩,
 ⟨some 85,false,none,ab (.t 87)⟩,
 ⟨some 88,false,none,ao 0 (.t 85)⟩,
 ⟨some 89,false,none,ao 1 (.t 85)⟩,
 ⟨some 12,true,none,ab (.t 88)⟩,
 ⟨some 7,true,none,ab (.t 89)⟩])
 (ae (al [⟨some 90,false,none,ab (.t 2)⟩,
 ⟨some 91,false,none,bF .eql (.t 90) (.c (.int .i64 (.lit 0)))⟩,
 ⟨some 92,false,none,ab (.t 91)⟩,
 ⟨some 93,false,some (92,true),ab (.t 5)⟩,
 ⟨some 94,false,some (92,true),bF .eql (.t 93) (.c (.int .i64 (.lit 0)))⟩,
 ⟨some 95,false,none,aR (.t 92) (.t 94) (.c (.bool (.lit false)))⟩,
 ⟨some 96,false,none,ab (.t 95)⟩,
 ⟨some 97,false,some (96,true),ab (.t 7)⟩,
 ⟨some 98,false,some (96,true),bF .eql (.t 97) (.c (.int .i64 (.lit 0)))⟩,
 ⟨some 99,false,none,aR (.t 96) (.t 98) (.c (.bool (.lit false)))⟩,
 ⟨some 100,false,none,ab (.t 99)⟩,
 ⟨some 101,false,some (100,true),ab (.t 10)⟩,
 ⟨some 102,false,some (100,true),bF .eql (.t 101) (.c (.int .i64 (.lit 4)))⟩,
 ⟨some 103,false,none,aR (.t 100) (.t 102) (.c (.bool (.lit false)))⟩,
 ⟨some 104,false,none,ab (.t 103)⟩,
 ⟨some 105,false,some (104,true),ab (.t 11)⟩,
 ⟨some 106,false,some (104,true),bF .eql (.t 105) (.c (.int .i64 (.lit 4)))⟩,
 ⟨some 107,false,none,aR (.t 104) (.t 106) (.c (.bool (.lit false)))⟩,
 ⟨some 108,false,none,ab (.t 107)⟩,
 ⟨some 109,false,some (108,true),ab (.t 12)⟩,
 ⟨some 110,false,some (108,true),bF .eql (.t 109) (.c (.int .i64 (.lit 18)))⟩,
 ⟨some 111,false,none,aR (.t 108) (.t 110) (.c (.bool (.lit false)))⟩,
 ⟨some 0,true,none,ab (.t 111)⟩])
 bg)))))))))),[.t 0]⟩
noncomputable def Tryd.kp8:List Nat:=[0,1,4,5,7,12]
noncomputable def Tryd.cf8:CF:=⟨2,(ae (al [⟨some 4,true,none,ab (.c (.int .i64 (.lit 0)))⟩])
 (ae (ae (al [⟨some 6,false,none,ab (.t 1)⟩,
 ⟨some 7,true,none,bF .lss (.t 6) (.c (.int .i64 (.lit 1)))⟩])
 (aO (.t 7) (ae (al [⟨some 4,true,none,ab (.c (.int .i64 (.lit 0)))⟩])
 bg) aM))
 (ae (al [⟨some 8,false,none,ab (.t 0)⟩,
 ⟨some 9,false,none,ab (.t 1)⟩,
 ⟨some 10,false,none,aF .rem (.t 8) (.t 9)⟩,
 ⟨some 5,true,none,ab (.t 10)⟩])
 (ae (ae (al [⟨some 11,false,none,ab (.t 5)⟩,
 ⟨some 12,true,none,bF .lss (.t 11) (.c (.int .i64 (.lit 0)))⟩])
 (aO (.t 12) (al [⟨some 13,false,none,ab (.t 5)⟩,
 ⟨some 14,false,none,ab (.t 1)⟩,
 ⟨some 15,false,none,aF .add (.t 13) (.t 14)⟩,
 ⟨some 5,true,none,ab (.t 15)⟩]) aM))
 (ae (al [⟨some 16,false,none,ab (.t 5)⟩,
 ⟨some 4,true,none,ab (.t 16)⟩])
 bg))))),[.t 4]⟩
noncomputable def Tryd.kp9:List Nat:=[0,1,2,3,4,5,12]
noncomputable def Tryd.cf9:CF:=⟨1,(ae (al [⟨some 1,true,none,cT 27 (.t 0)⟩,
 ⟨some 2,true,none,ab (.c .nilslice)⟩,
 ⟨some 3,true,none,ab (.c (.int .i64 (.lit 0)))⟩])
 (ae (al [⟨some 7,false,none,ac 23 (.t 1)⟩,
 ⟨some 8,false,none,ar (.c (.func (.func 30) [] [])) [(.t 7)]⟩,
 ⟨some 6,false,none,ab (.t 8)⟩,
 ⟨some 9,false,none,ao 0 (.t 6)⟩,
 ⟨some 10,false,none,ao 1 (.t 6)⟩,
 ⟨some 4,true,none,ay 69 [(.int .i64 (.lit 0)),(.int .i64 (.lit 0)),(.int .i64 (.lit 0)),(.int .i64 (.lit 0)),(.int .i64 (.lit 0)),(.int .i64 (.lit 0)),(.int .i64 (.lit 0)),(.int .i64 (.lit 0)),(.int .i64 (.lit 0)),(.int .i64 (.lit 0)),(.int .i64 (.lit 0)),(.int .i64 (.lit 0)),(.int .i64 (.lit 0)),(.int .i64 (.lit 0)),(.int .i64 (.lit 0)),(.int .i64 (.lit 0)),(.int .i64 (.lit 0)),(.int .i64 (.lit 0)),(.int .i64 (.lit 0)),(.int .i64 (.lit 0)),(.int .i64 (.lit 0)),(.int .i64 (.lit 0)),.nilslice,(.int .i64 (.lit 0)),(.int .i64 (.lit 0)),(.int .i64 (.lit 0)),(.int .i64 (.lit 0)),(.int .i64 (.lit 0)),(.int .i64 (.lit 0)),(.int .i64 (.lit 0)),(.int .i64 (.lit 0)),(.int .i64 (.lit 0)),(.int .i64 (.lit 0)),(.int .i64 (.lit 0)),(.int .i64 (.lit 0)),(.int .i64 (.lit 0)),(.int .i64 (.lit 0)),(.int .i64 (.lit 0)),(.int .i64 (.lit 0))]⟩,
 ⟨none,false,none,aj 39 (.t 4) (.t 9)⟩,
 ⟨some 5,true,none,ab (.t 10)⟩])
 (ae (ae (al [⟨some 11,false,none,ab (.t 5)⟩,
 ⟨some 12,true,none,bF .neq (.t 11) (.c (.int .i64 (.lit 0)))⟩])
 (aO (.t 12) (ae (al [⟨some 13,false,none,ab (.t 5)⟩,
 ⟨some 2,true,none,ab (.c .nilslice)⟩,
 ⟨some 3,true,none,ab (.t 13)⟩])
 bg) aM))
 (ae (al [⟨some 14,false,none,ac 39 (.t 4)⟩,
 ⟨some 15,false,none,ar (.c (.func (.func 31) [] [])) [(.t 14)]⟩,
 ⟨some 16,false,none,ao 0 (.t 15)⟩,
 ⟨some 17,false,none,ao 1 (.t 15)⟩,
 ⟨some 2,true,none,ab (.t 16)⟩,
 ⟨some 3,true,none,ab (.t 17)⟩])
 bg)))),[.t 2,.t 3]⟩
noncomputable def Tryd.kp10:List Nat:=[0,1,2,3,4,5,12]
noncomputable def Tryd.cf10:CF:=⟨1,(ae (al [⟨some 1,true,none,cT 27 (.t 0)⟩,
 ⟨some 2,true,none,ab (.c (.int .i64 (.lit 0)))⟩,
 ⟨some 3,true,none,ab (.c (.int .i64 (.lit 0)))⟩])
 (ae (al [⟨some 7,false,none,ac 23 (.t 1)⟩,
 ⟨some 8,false,none,ar (.c (.func (.func 30) [] [])) [(.t 7)]⟩,
 ⟨some 6,false,none,ab (.t 8)⟩,
 ⟨some 9,false,none,ao 0 (.t 6)⟩,
 ⟨some 10,false,none,ao 1 (.t 6)⟩,
 ⟨some 4,true,none,ay 69 [(.int .i64 (.lit 0)),(.int .i64 (.lit 0)),(.int .i64 (.lit 0)),(.int .i64 (.lit 0)),(.int .i64 (.lit 0)),(.int .i64 (.lit 0)),(.int .i64 (.lit 0)),(.int .i64 (.lit 0)),(.int .i64 (.lit 0)),(.int .i64 (.lit 0)),(.int .i64 (.lit 0)),(.int .i64 (.lit 0)),(.int .i64 (.lit 0)),(.int .i64 (.lit 0)),(.int .i64 (.lit 0)),(.int .i64 (.lit 0)),(.int .i64 (.lit 0)),(.int .i64 (.lit 0)),(.int .i64 (.lit 0)),(.int .i64 (.lit 0)),(.int .i64 (.lit 0)),(.int .i64 (.lit 0)),.nilslice,(.int .i64 (.lit 0)),(.int .i64 (.lit 0)),(.int .i64 (.lit 0)),(.int .i64 (.lit 0)),(.int .i64 (.lit 0)),(.int .i64 (.lit 0)),(.int .i64 (.lit 0)),(.int .i64 (.lit 0)),(.int .i64 (.lit 0)),(.int .i64 (.lit 0)),(.int .i64 (.lit 0)),(.int .i64 (.lit 0)),(.int .i64 (.lit 0)),(.int .i64 (.lit 0)),(.int .i64 (.lit 0)),(.int .i64 (.lit 0))]⟩,
 ⟨none,false,none,aj 39 (.t 4) (.t 9)⟩,
 ⟨some 5,true,none,ab (.t 10)⟩])
 (ae (ae (al [⟨some 11,false,none,ab (.t 5)⟩,
 ⟨some 12,true,none,bF .neq (.t 11) (.c (.int .i64 (.lit 0)))⟩])
 (aO (.t 12) (ae (al [⟨some 13,false,none,ab (.t 5)⟩,
 ⟨some 2,true,none,ab (.c (.int .i64 (.lit 0)))⟩,
 ⟨some 3,true,none,ab (.t 13)⟩])
 bg) aM))
 (ae (al [⟨some 14,false,none,aa 0 (.t 4)⟩,
 ⟨some 15,false,none,aa 22 (.t 14)⟩,
 ⟨some 16,false,none,au (.t 15)⟩,
 ⟨some 17,false,none,cO (.t 16)⟩,
 ⟨some 18,false,none,ac 39 (.t 4)⟩,
 ⟨some 19,false,none,iFunc (.func 33) [(.t 18)] []⟩,
 ⟨some 20,false,none,ar (.c (.func (.func 32) [] [])) [(.t 17),(.t 19)]⟩,
 ⟨some 2,true,none,ab (.t 20)⟩,
 ⟨some 3,true,none,ab (.c (.int .i64 (.lit 0)))⟩])
 bg)))),[.t 2,.t 3]⟩
noncomputable def Tryd.kp13:List Nat:=[0,1,2,3,6,7,8,9,10,11,12,13,14,15,16,17,18,19,20,21,22,23,48,83,94,123,141,158]
noncomputable def Tryd.kp15:List Nat:=[0,1,2,4,5,6,7,12]
noncomputable def Tryd.cf15:CF:=⟨2,(ae (al [⟨some 2,true,none,cT 27 (.t 0)⟩,
 ⟨some 4,true,none,ab (.c .nilslice)⟩])
 (ae (al [⟨some 5,true,none,ab (.c .nilslice)⟩])
 (ae (ae (al [⟨some 6,true,none,ab (.c (.int .i64 (.lit 0)))⟩])
 (aL 0 (eP (ae (ae (al [⟨some 8,false,none,ab (.t 6)⟩,
 ⟨some 9,false,none,aa 22 (.t 2)⟩,
 ⟨some 10,false,none,au (.t 9)⟩,
 ⟨some 11,false,none,cO (.t 10)⟩,
 ⟨some 12,true,none,bF .lss (.t 8) (.t 11)⟩])
 (aO (.t 12) aM (dE 0)))
 (ae (aL 1 (ae (dOps 0 [⟨⟨some 15,false,none,ab (.t 1)⟩,[1],false,0,0,none,[]⟩,
 ⟨⟨some 16,false,none,ab (.t 6)⟩,[6],false,0,0,none,[]⟩,
 ⟨⟨some 17,false,none,aF .mul (.c (.int .i64 (.lit 2))) (.t 16)⟩,[16],false,0,0,none,[]⟩,
 ⟨⟨some 18,false,none,ar (.c (.func (.func 36) [] [])) [(.t 15),(.t 17)]⟩,[15,17],true,0,0,none,[]⟩,
 ⟨⟨some 19,false,none,aa 22 (.t 2)⟩,[2],false,0,1,none,[]⟩,
 ⟨⟨some 20,false,none,au (.t 19)⟩,[19],false,0,1,none,[]⟩,
 ⟨⟨some 21,false,none,ab (.t 6)⟩,[6],false,0,1,none,[]⟩,
 ⟨⟨some 22,false,none,bw 4 (.t 20) (.t 21)⟩,[20,21],false,0,1,none,[]⟩,
 ⟨⟨some 23,false,none,aa 3 (.t 22)⟩,[22],false,0,1,none,[]⟩,
 ⟨⟨some 24,false,none,au (.t 23)⟩,[23],false,0,1,none,[]⟩,
 ⟨⟨some 25,false,none,aF .add (.t 24) (.c (.int .i64 (.lit 1)))⟩,[24],false,0,1,none,[]⟩,
 ⟨⟨some 26,false,none,ar (.c (.func (.func 8) [] [])) [(.t 18),(.t 25)]⟩,[18,25],true,1,0,none,[]⟩,
 ⟨⟨some 7,true,none,ab (.t 26)⟩,[26],false,2,2,none,[]⟩])
 (dOps 0 [⟨⟨some 27,false,none,ab (.t 5)⟩,[5],false,0,3,none,[]⟩,
 ⟨⟨some 28,false,none,ab (.t 7)⟩,[7],false,0,2,none,[]⟩,
 ⟨⟨some 29,false,none,ab (.t 1)⟩,[1],false,0,0,none,[]⟩,
 ⟨⟨some 30,false,none,ab (.t 6)⟩,[6],false,0,0,none,[]⟩,
 ⟨⟨some 31,false,none,aF .mul (.c (.int .i64 (.lit 2))) (.t 30)⟩,[30],false,0,0,none,[]⟩,
 ⟨⟨some 32,false,none,aF .add (.t 31) (.c (.int .i64 (.lit 1)))⟩,[31],false,0,0,none,[]⟩,
 ⟨⟨some 33,false,none,ar (.c (.func (.func 36) [] [])) [(.t 29),(.t 32)]⟩,[29,32],true,0,0,none,[]⟩,
 ⟨⟨some 34,false,none,aa 22 (.t 2)⟩,[2],false,0,1,none,[]⟩,
 ⟨⟨some 35,false,none,au (.t 34)⟩,[34],false,0,1,none,[]⟩,
 ⟨⟨some 36,false,none,ab (.t 6)⟩,[6],false,0,1,none,[]⟩,
 ⟨⟨some 37,false,none,bw 4 (.t 35) (.t 36)⟩,[35,36],false,0,1,none,[]⟩,
 ⟨⟨some 38,false,none,aa 3 (.t 37)⟩,[37],false,0,1,none,[]⟩,
 ⟨⟨some 39,false,none,au (.t 38)⟩,[38],false,0,1,none,[]⟩,
 ⟨⟨some 40,false,none,ab (.t 7)⟩,[7],false,0,1,none,[]⟩,
 ⟨⟨some 41,false,none,aF .sub (.t 39) (.t 40)⟩,[39,40],false,0,1,none,[]⟩,
 ⟨⟨some 42,false,none,aF .add (.t 41) (.c (.int .i64 (.lit 1)))⟩,[41],false,0,1,none,[]⟩,
 ⟨⟨some 43,false,none,ar (.c (.func (.func 8) [] [])) [(.t 33),(.t 42)]⟩,[33,42],true,1,0,none,[]⟩,
 ⟨⟨some 44,false,none,aK [(.int .i64 (.lit 0)),(.int .i64 (.lit 0))] [(0,1,(.t 28)),(1,1,(.t 43))]⟩,[28,43],false,2,2,none,[]⟩,
 ⟨⟨some 45,false,none,cN 76 [(.int .i64 (.lit 0)),(.int .i64 (.lit 0))] 1 [(0,2,(.t 44))]⟩,[44],true,2,0,none,[]⟩,
 ⟨⟨some 46,false,none,gj 76 2 16 (.t 27) (.t 45)⟩,[27,45],true,3,0,none,[]⟩,
 ⟨⟨some 5,true,none,ab (.t 46)⟩,[46],false,4,4,none,[]⟩])))
 (al [⟨some 13,false,none,ab (.t 6)⟩,
 ⟨some 14,false,none,aF .add (.t 13) (.c (.int .i64 (.lit 1)))⟩,
 ⟨some 6,true,none,ab (.t 14)⟩]))))))
 (ae (al [⟨some 47,false,none,ab (.t 5)⟩,
 ⟨some 4,true,none,ab (.t 47)⟩])
 bg)))),[.t 4]⟩
noncomputable def Tryd.kp16:List Nat:=[0,1,2,4,5,6,7,14,19]
noncomputable def Tryd.cf16:CF:=⟨2,(ae (al [⟨some 2,true,none,cT 27 (.t 0)⟩,
 ⟨some 4,true,none,ab (.c (.int .i64 (.lit 0)))⟩,
 ⟨some 5,true,none,ab (.c (.int .i64 (.lit 0)))⟩])
 (ae (al [⟨some 9,false,none,ac 23 (.t 2)⟩,
 ⟨some 10,false,none,ar (.c (.func (.func 30) [] [])) [(.t 9)]⟩,
 ⟨some 8,false,none,ab (.t 10)⟩,
 ⟨some 11,false,none,ao 0 (.t 8)⟩,
 ⟨some 12,false,none,ao 1 (.t 8)⟩,
 ⟨some 6,true,none,ay 69 [(.int .i64 (.lit 0)),(.int .i64 (.lit 0)),(.int .i64 (.lit 0)),(.int .i64 (.lit 0)),(.int .i64 (.lit 0)),(.int .i64 (.lit 0)),(.int .i64 (.lit 0)),(.int .i64 (.lit 0)),(.int .i64 (.lit 0)),(.int .i64 (.lit 0)),(.int .i64 (.lit 0)),(.int .i64 (.lit 0)),(.int .i64 (.lit 0)),(.int .i64 (.lit 0)),(.int .i64 (.lit 0)),(.int .i64 (.lit 0)),(.int .i64 (.lit 0)),(.int .i64 (.lit 0)),(.int .i64 (.lit 0)),(.int .i64 (.lit 0)),(.int .i64 (.lit 0)),(.int .i64 (.lit 0)),.nilslice,(.int .i64 (.lit 0)),(.int .i64 (.lit 0)),(.int .i64 (.lit 0)),(.int .i64 (.lit 0)),(.int .i64 (.lit 0)),(.int .i64 (.lit 0)),(.int .i64 (.lit 0)),(.int .i64 (.lit 0)),(.int .i64 (.lit 0)),(.int .i64 (.lit 0)),(.int .i64 (.lit 0)),(.int .i64 (.lit 0)),(.int .i64 (.lit 0)),(.int .i64 (.lit 0)),(.int .i64 (.lit 0)),(.int .i64 (.lit 0))]⟩,
 ⟨none,false,none,aj 39 (.t 6) (.t 11)⟩,
 ⟨some 7,true,none,ab (.t 12)⟩])
 (ae (ae (al [⟨some 13,false,none,ab (.t 7)⟩,
 ⟨some 14,true,none,bF .neq (.t 13) (.c (.int .i64 (.lit 0)))⟩])
 (aO (.t 14) (ae (al [⟨some 15,false,none,ab (.t 7)⟩,
 ⟨some 4,true,none,ab (.c (.int .i64 (.lit 0)))⟩,
 ⟨some 5,true,none,ab (.t 15)⟩])
 bg) aM))
 (ae (ae (al [⟨some 16,false,none,ac 39 (.t 6)⟩,
 ⟨some 17,false,none,ab (.t 1)⟩,
 ⟨some 18,false,none,ar (.c (.func (.func 37) [] [])) [(.t 16),(.t 17)]⟩,
 ⟨some 19,true,none,iNot (.t 18)⟩])
 (aO (.t 19) (ae (al [⟨some 4,true,none,ab (.c (.int .i64 (.lit 0)))⟩,
 ⟨some 5,true,none,ab (.c (.int .i64 (.lit 41)))⟩])
 bg) aM))
 (ae (al [⟨some 20,false,none,ac 39 (.t 6)⟩,
 ⟨some 21,false,none,ab (.t 1)⟩,
 ⟨some 22,false,none,ar (.c (.func (.func 38) [] [])) [(.t 20),(.t 21)]⟩,
 ⟨some 23,false,none,ao 0 (.t 22)⟩,
 ⟨some 24,false,none,ao 1 (.t 22)⟩,
 ⟨some 4,true,none,ab (.t 23)⟩,
 ⟨some 5,true,none,ab (.t 24)⟩])
 bg))))),[.t 4,.t 5]⟩
noncomputable def Tryd.kp17:List Nat:=[0,1,2,6]
noncomputable def Tryd.cf17:CF:=⟨3,(ae (al [⟨some 6,true,none,ab (.c (.bool (.lit false)))⟩])
 (ae (al [⟨some 7,false,none,ab (.t 0)⟩,
 ⟨some 8,false,none,ab (.t 1)⟩,
 ⟨some 9,false,none,bF .geq (.t 7) (.t 8)⟩,
 ⟨some 10,false,none,ab (.t 9)⟩,
 ⟨some 11,false,some (10,true),ab (.t 0)⟩,
 ⟨some 12,false,some (10,true),ab (.t 2)⟩,
 ⟨some 13,false,some (10,true),bF .leq (.t 11) (.t 12)⟩,
 ⟨some 14,false,none,aR (.t 10) (.t 13) (.c (.bool (.lit false)))⟩,
 ⟨some 6,true,none,ab (.t 14)⟩])
 bg)),[.t 6]⟩
noncomputable def Tryd.kp18:List Nat:=[0,1,2,4,5,6,7,8,31,59]
noncomputable def Tryd.cf18:CF:=⟨2,(ae (al [⟨some 2,true,none,cT 27 (.t 0)⟩,
 ⟨some 4,true,none,ay 27 [(.int .i64 (.lit 0)),(.int .i64 (.lit 0)),(.int .i64 (.lit 0)),(.int .i64 (.lit 0)),(.int .i64 (.lit 0)),(.int .i64 (.lit 0)),(.int .i64 (.lit 0)),(.int .i64 (.lit 0)),(.int .i64 (.lit 0)),(.int .i64 (.lit 0)),(.int .i64 (.lit 0)),(.int .i64 (.lit 0)),(.int .i64 (.lit 0)),(.int .i64 (.lit 0)),(.int .i64 (.lit 0)),(.int .i64 (.lit 0)),(.int .i64 (.lit 0)),(.int .i64 (.lit 0)),(.int .i64 (.lit 0)),(.int .i64 (.lit 0)),(.int .i64 (.lit 0)),(.int .i64 (.lit 0)),.nilslice]⟩])
 (ae (al [⟨some 9,false,none,ac 23 (.t 2)⟩,
 ⟨some 5,true,none,ay 27 [(.int .i64 (.lit 0)),(.int .i64 (.lit 0)),(.int .i64 (.lit 0)),(.int .i64 (.lit 0)),(.int .i64 (.lit 0)),(.int .i64 (.lit 0)),(.int .i64 (.lit 0)),(.int .i64 (.lit 0)),(.int .i64 (.lit 0)),(.int .i64 (.lit 0)),(.int .i64 (.lit 0)),(.int .i64 (.lit 0)),(.int .i64 (.lit 0)),(.int .i64 (.lit 0)),(.int .i64 (.lit 0)),(.int .i64 (.lit 0)),(.int .i64 (.lit 0)),(.int .i64 (.lit 0)),(.int .i64 (.lit 0)),(.int .i64 (.lit 0)),(.int .i64 (.lit 0)),(.int .i64 (.lit 0)),.nilslice]⟩,
 ⟨none,false,none,aj 23 (.t 5) (.t 9)⟩])
 (ae (dOps 0 [⟨⟨some 10,false,none,aa 0 (.t 2)⟩,[2],false,0,0,none,[]⟩,
 ⟨⟨some 11,false,none,ac 2 (.t 10)⟩,[10],false,0,0,none,[]⟩,
 ⟨⟨some 12,false,none,ab (.t 1)⟩,[1],false,0,0,none,[]⟩,
 ⟨⟨some 13,false,none,ar (.c (.func (.func 39) [] [])) [(.t 11),(.t 12)]⟩,[11,12],true,0,0,none,[]⟩,
 ⟨⟨some 14,false,none,aa 2 (.t 2)⟩,[2],false,0,1,none,[]⟩,
 ⟨⟨some 15,false,none,ac 2 (.t 14)⟩,[14],false,0,1,none,[]⟩,
 ⟨⟨some 16,false,none,ab (.t 1)⟩,[1],false,0,1,none,[]⟩,
 ⟨⟨some 17,false,none,ar (.c (.func (.func 39) [] [])) [(.t 15),(.t 16)]⟩,[15,16],true,1,0,none,[]⟩,
 ⟨⟨some 18,false,none,aa 16 (.t 2)⟩,[2],false,0,2,none,[]⟩,
 ⟨⟨some 19,false,none,ac 2 (.t 18)⟩,[18],false,0,2,none,[]⟩,
 ⟨⟨some 20,false,none,ab (.t 1)⟩,[1],false,0,2,none,[]⟩,
 ⟨⟨some 21,false,none,ar (.c (.func (.func 39) [] [])) [(.t 19),(.t 20)]⟩,[19,20],true,2,0,none,[]⟩,
 ⟨⟨some 22,false,none,aa 18 (.t 2)⟩,[2],false,0,3,none,[]⟩,
 ⟨⟨some 23,false,none,ac 2 (.t 22)⟩,[22],false,0,3,none,[]⟩,
 ⟨⟨some 24,false,none,ab (.t 1)⟩,[1],false,0,3,none,[]⟩,
 ⟨⟨some 25,false,none,ar (.c (.func (.func 39) [] [])) [(.t 23),(.t 24)]⟩,[23,24],true,3,0,none,[]⟩,
 ⟨⟨some 26,false,none,aa 0 (.t 5)⟩,[5],false,1,4,none,[]⟩,
 ⟨⟨none,false,none,aj 2 (.t 26) (.t 13)⟩,[26,13],true,4,0,none,[]⟩,
 ⟨⟨some 27,false,none,aa 2 (.t 5)⟩,[5],false,5,5,none,[]⟩,
 ⟨⟨none,false,none,aj 2 (.t 27) (.t 17)⟩,[27,17],true,5,0,none,[]⟩,
 ⟨⟨some 28,false,none,aa 16 (.t 5)⟩,[5],false,6,6,none,[]⟩,
 ⟨⟨none,false,none,aj 2 (.t 28) (.t 21)⟩,[28,21],true,6,0,none,[]⟩,
 ⟨⟨some 29,false,none,aa 18 (.t 5)⟩,[5],false,7,7,none,[]⟩,
 ⟨⟨none,false,none,aj 2 (.t 29) (.t 25)⟩,[29,25],true,7,0,none,[]⟩])
 (ae (ae (al [⟨some 6,true,none,ab (.c (.int .i64 (.lit 0)))⟩])
 (aL 0 (eP (ae (ae (al [⟨some 30,false,none,ab (.t 6)⟩,
 ⟨some 31,true,none,bF .lss (.t 30) (.c (.int .i64 (.lit 2)))⟩])
 (aO (.t 31) aM (dE 0)))
 (ae (aL 1 (dOps 0 [⟨⟨some 34,false,none,ab (.t 6)⟩,[6],false,0,2,none,[]⟩,
 ⟨⟨some 35,false,none,ab (.t 6)⟩,[6],false,0,3,none,[]⟩,
 ⟨⟨some 36,false,none,ab (.t 6)⟩,[6],false,0,0,none,[]⟩,
 ⟨⟨some 37,false,none,aa 8 (.t 2)⟩,[2],false,0,0,none,[]⟩,
 ⟨⟨some 38,false,none,bB 2 2 (.t 37) (.t 36)⟩,[37,36],false,0,0,none,[]⟩,
 ⟨⟨some 39,false,none,ac 2 (.t 38)⟩,[38],false,0,0,none,[]⟩,
 ⟨⟨some 40,false,none,ab (.t 1)⟩,[1],false,0,0,none,[]⟩,
 ⟨⟨some 41,false,none,iNot (.t 40)⟩,[40],false,0,0,none,[]⟩,
 ⟨⟨some 42,false,none,ar (.c (.func (.func 39) [] [])) [(.t 39),(.t 41)]⟩,[39,41],true,0,0,none,[]⟩,
 ⟨⟨some 43,false,none,ab (.t 6)⟩,[6],false,0,1,none,[]⟩,
 ⟨⟨some 44,false,none,aa 12 (.t 2)⟩,[2],false,0,1,none,[]⟩,
 ⟨⟨some 45,false,none,bB 2 2 (.t 44) (.t 43)⟩,[44,43],false,0,1,none,[]⟩,
 ⟨⟨some 46,false,none,ac 2 (.t 45)⟩,[45],false,0,1,none,[]⟩,
 ⟨⟨some 47,false,none,ab (.t 1)⟩,[1],false,0,1,none,[]⟩,
 ⟨⟨some 48,false,none,iNot (.t 47)⟩,[47],false,0,1,none,[]⟩,
 ⟨⟨some 49,false,none,ar (.c (.func (.func 39) [] [])) [(.t 46),(.t 48)]⟩,[46,48],true,1,0,none,[]⟩,
 ⟨⟨some 50,false,none,aa 8 (.t 5)⟩,[5],false,0,2,none,[]⟩,
 ⟨⟨some 51,false,none,bB 2 2 (.t 50) (.t 34)⟩,[50,34],false,1,2,none,[]⟩,
 ⟨⟨none,false,none,aj 2 (.t 51) (.t 42)⟩,[51,42],true,2,0,none,[]⟩,
 ⟨⟨some 52,false,none,aa 12 (.t 5)⟩,[5],false,0,3,none,[]⟩,
 ⟨⟨some 53,false,none,bB 2 2 (.t 52) (.t 35)⟩,[52,35],false,3,3,none,[]⟩,
 ⟨⟨none,false,none,aj 2 (.t 53) (.t 49)⟩,[53,49],true,3,0,none,[]⟩]))
 (al [⟨some 32,false,none,ab (.t 6)⟩,
 ⟨some 33,false,none,aF .add (.t 32) (.c (.int .i64 (.lit 1)))⟩,
 ⟨some 6,true,none,ab (.t 33)⟩]))))))
 (ae (al [⟨some 54,false,none,aa 22 (.t 5)⟩,
 ⟨none,false,none,aj 1 (.t 54) (.c .nilslice)⟩])
 (ae (ae (al [⟨some 7,true,none,ab (.c (.int .i64 (.lit 0)))⟩])
 (aL 2 (eP (ae (ae (al [⟨some 55,false,none,ab (.t 7)⟩,
 ⟨some 56,false,none,aa 22 (.t 2)⟩,
 ⟨some 57,false,none,au (.t 56)⟩,
 ⟨some 58,false,none,cO (.t 57)⟩,
 ⟨some 59,true,none,bF .lss (.t 55) (.t 58)⟩])
 (aO (.t 59) aM (dE 2)))
 (ae (aL 3 (ae (al [⟨some 62,false,none,aa 22 (.t 2)⟩,
 ⟨some 63,false,none,au (.t 62)⟩,
 ⟨some 64,false,none,ab (.t 7)⟩,
 ⟨some 65,false,none,bw 4 (.t 63) (.t 64)⟩,
 ⟨some 66,false,none,ac 4 (.t 65)⟩,
 ⟨some 8,true,none,ay 33 [(.int .i64 (.lit 0)),(.int .i64 (.lit 0)),(.bool (.lit false)),(.int .i64 (.lit 0))]⟩,
 ⟨none,false,none,aj 4 (.t 8) (.t 66)⟩])
 (ae (al [⟨some 67,false,none,aa 0 (.t 8)⟩,
 ⟨some 68,false,none,ac 2 (.t 67)⟩,
 ⟨some 69,false,none,ab (.t 1)⟩,
 ⟨some 70,false,none,iNot (.t 69)⟩,
 ⟨some 71,false,none,ar (.c (.func (.func 39) [] [])) [(.t 68),(.t 70)]⟩,
 ⟨some 72,false,none,aa 0 (.t 8)⟩,
 ⟨none,false,none,aj 2 (.t 72) (.t 71)⟩])
 (al [⟨some 73,false,none,aa 22 (.t 5)⟩,
 ⟨some 74,false,none,au (.t 73)⟩,
 ⟨some 75,false,none,ac 4 (.t 8)⟩,
 ⟨some 76,false,none,cN 33 [(.int .i64 (.lit 0)),(.int .i64 (.lit 0)),(.bool (.lit false)),(.int .i64 (.lit 0))] 1 [(0,4,(.t 75))]⟩,
 ⟨some 77,false,none,gj 33 4 32 (.t 74) (.t 76)⟩,
 ⟨some 78,false,none,aa 22 (.t 5)⟩,
 ⟨none,false,none,aj 1 (.t 78) (.t 77)⟩]))))
 (al [⟨some 60,false,none,ab (.t 7)⟩,
 ⟨some 61,false,none,aF .add (.t 60) (.c (.int .i64 (.lit 1)))⟩,
 ⟨some 7,true,none,ab (.t 61)⟩]))))))
 (ae (al [⟨some 79,false,none,ac 23 (.t 5)⟩,
 ⟨none,false,none,aj 23 (.t 4) (.t 79)⟩])
 bg))))))),[.cell 4 true 23]⟩
noncomputable def Tryd.kp19:List Nat:=[0,1,2,3,6,7,8,9,16,29]
noncomputable def Tryd.cf19:CF:=⟨3,(ae (al [⟨some 3,true,none,cT 27 (.t 0)⟩,
 ⟨some 6,true,none,ay 23 [(.int .i64 (.lit 0)),(.int .i64 (.lit 0))]⟩,
 ⟨some 7,true,none,ay 23 [(.int .i64 (.lit 0)),(.int .i64 (.lit 0))]⟩,
 ⟨some 8,true,none,ab (.c (.int .i64 (.lit 0)))⟩])
 (ae (al [⟨some 11,false,none,ac 23 (.t 3)⟩,
 ⟨some 12,false,none,ar (.c (.func (.func 30) [] [])) [(.t 11)]⟩,
 ⟨some 10,false,none,ab (.t 12)⟩,
 ⟨some 13,false,none,ao 0 (.t 10)⟩,
 ⟨some 14,false,none,ao 1 (.t 10)⟩,
 ⟨some 9,true,none,ay 69 [(.int .i64 (.lit 0)),(.int .i64 (.lit 0)),(.int .i64 (.lit 0)),(.int .i64 (.lit 0)),(.int .i64 (.lit 0)),(.int .i64 (.lit 0)),(.int .i64 (.lit 0)),(.int .i64 (.lit 0)),(.int .i64 (.lit 0)),(.int .i64 (.lit 0)),(.int .i64 (.lit 0)),(.int .i64 (.lit 0)),(.int .i64 (.lit 0)),(.int .i64 (.lit 0)),(.int .i64 (.lit 0)),(.int .i64 (.lit 0)),(.int .i64 (.lit 0)),(.int .i64 (.lit 0)),(.int .i64 (.lit 0)),(.int .i64 (.lit 0)),(.int .i64 (.lit 0)),(.int .i64 (.lit 0)),.nilslice,(.int .i64 (.lit 0)),(.int .i64 (.lit 0)),(.int .i64 (.lit 0)),(.int .i64 (.lit 0)),(.int .i64 (.lit 0)),(.int .i64 (.lit 0)),(.int .i64 (.lit 0)),(.int .i64 (.lit 0)),(.int .i64 (.lit 0)),(.int .i64 (.lit 0)),(.int .i64 (.lit 0)),(.int .i64 (.lit 0)),(.int .i64 (.lit 0)),(.int .i64 (.lit 0)),(.int .i64 (.lit 0)),(.int .i64 (.lit 0))]⟩,
 ⟨none,false,none,aj 39 (.t 9) (.t 13)⟩,
 ⟨some 8,true,none,ab (.t 14)⟩])
 (ae (ae (al [⟨some 15,false,none,ab (.t 8)⟩,
 ⟨some 16,true,none,bF .neq (.t 15) (.c (.int .i64 (.lit 0)))⟩])
 (aO (.t 16) (ae (al [⟨some 17,false,none,aK [(.int .i64 (.lit 0)),(.int .i64 (.lit 0))] []⟩,
 ⟨some 18,false,none,aK [(.int .i64 (.lit 0)),(.int .i64 (.lit 0))] []⟩,
 ⟨some 19,false,none,ab (.t 8)⟩,
 ⟨none,false,none,aj 2 (.t 6) (.t 17)⟩,
 ⟨none,false,none,aj 2 (.t 7) (.t 18)⟩,
 ⟨some 8,true,none,ab (.t 19)⟩])
 bg) aM))
 (ae (ae (al [⟨some 20,false,none,ac 39 (.t 9)⟩,
 ⟨some 21,false,none,ab (.t 1)⟩,
 ⟨some 22,false,none,ar (.c (.func (.func 37) [] [])) [(.t 20),(.t 21)]⟩,
 ⟨some 23,false,none,iNot (.t 22)⟩,
 ⟨some 24,false,none,ab (.t 23)⟩,
 ⟨some 25,false,some (24,false),ac 39 (.t 9)⟩,
 ⟨some 26,false,some (24,false),ab (.t 2)⟩,
 ⟨some 27,false,some (24,false),ar (.c (.func (.func 40) [] [])) [(.t 25),(.t 26)]⟩,
 ⟨some 28,false,some (24,false),iNot (.t 27)⟩,
 ⟨some 29,true,none,aR (.t 24) (.c (.bool (.lit true))) (.t 28)⟩])
 (aO (.t 29) (ae (al [⟨some 30,false,none,aK [(.int .i64 (.lit 0)),(.int .i64 (.lit 0))] []⟩,
 ⟨some 31,false,none,aK [(.int .i64 (.lit 0)),(.int .i64 (.lit 0))] []⟩,
 ⟨none,false,none,aj 2 (.t 6) (.t 30)⟩,
 ⟨none,false,none,aj 2 (.t 7) (.t 31)⟩,
 ⟨some 8,true,none,ab (.c (.int .i64 (.lit 41)))⟩])
 bg) aM))
 (ae (dOps 0 [⟨⟨some 32,false,none,ac 39 (.t 9)⟩,[9],false,0,0,none,[]⟩,
 ⟨⟨some 33,false,none,ab (.t 1)⟩,[1],false,0,0,none,[]⟩,
 ⟨⟨some 34,false,none,ab (.t 2)⟩,[2],false,0,0,none,[]⟩,
 ⟨⟨some 35,false,none,aF .add (.t 34) (.c (.int .i64 (.lit 1)))⟩,[34],false,0,0,none,[]⟩,
 ⟨⟨some 36,false,none,ab (.t 2)⟩,[2],false,0,0,none,[]⟩,
 ⟨⟨some 37,false,none,aF .add (.t 36) (.c (.int .i64 (.lit 1)))⟩,[36],false,0,0,none,[]⟩,
 ⟨⟨some 38,false,none,iSlice 2 (.t 33) none (some (.t 35)) (some (.t 37))⟩,[33,35,37],false,0,0,none,[]⟩,
 ⟨⟨some 39,false,none,ar (.c (.func (.func 41) [] [])) [(.t 32),(.t 38)]⟩,[32,38],true,0,0,none,[]⟩,
 ⟨⟨some 40,false,none,ao 0 (.t 39)⟩,[39],false,1,1,none,[]⟩,
 ⟨⟨some 41,false,none,ao 1 (.t 39)⟩,[39],false,1,1,none,[]⟩,
 ⟨⟨some 42,false,none,ao 2 (.t 39)⟩,[39],false,1,1,none,[]⟩,
 ⟨⟨none,false,none,aj 2 (.t 6) (.t 40)⟩,[6,40],true,1,0,none,[]⟩,
 ⟨⟨none,false,none,aj 2 (.t 7) (.t 41)⟩,[7,41],true,2,0,none,[]⟩,
 ⟨⟨some 8,true,none,ab (.t 42)⟩,[42],false,3,3,none,[]⟩])
 bg))))),[.cell 6 true 2,.cell 7 true 2,.t 8]⟩
noncomputable def Tryd.kp20:List Nat:=[0,1,4]
noncomputable def Tryd.cf20:CF:=⟨2,(ae (al [⟨some 4,true,none,ay 23 [(.int .i64 (.lit 0)),(.int .i64 (.lit 0))]⟩])
 (ae (al [⟨some 5,false,none,ab (.t 0)⟩,
 ⟨some 6,false,none,ab (.t 1)⟩,
 ⟨some 7,false,none,aK [(.int .i64 (.lit 0)),(.int .i64 (.lit 0))] [(0,1,(.t 5)),(1,1,(.t 6))]⟩,
 ⟨none,false,none,aj 2 (.t 4) (.t 7)⟩])
 bg)),[.cell 4 true 2]⟩
noncomputable def Tryd.kp21:List Nat:=[0,1,4,5,6,18]
noncomputable def Tryd.cf21:CF:=⟨2,(ae (al [⟨some 4,true,none,ab (.c (.bool (.lit false)))⟩])
 (ae (al [⟨some 7,false,none,ab (.t 0)⟩,
 ⟨some 8,false,none,cO (.t 7)⟩,
 ⟨some 9,false,none,ab (.t 1)⟩,
 ⟨some 10,false,none,cO (.t 9)⟩,
 ⟨some 11,false,none,bF .eql (.t 8) (.t 10)⟩,
 ⟨some 5,true,none,ab (.t 11)⟩])
 (ae (ae (al [⟨some 6,true,none,ab (.c (.int .i64 (.lit 0)))⟩])
 (aL 0 (eP (ae (ae (al [⟨some 12,false,none,ab (.t 5)⟩,
 ⟨some 13,false,none,ab (.t 12)⟩,
 ⟨some 14,false,some (13,true),ab (.t 6)⟩,
 ⟨some 15,false,some (13,true),ab (.t 0)⟩,
 ⟨some 16,false,some (13,true),cO (.t 15)⟩,
 ⟨some 17,false,some (13,true),bF .lss (.t 14) (.t 16)⟩,
 ⟨some 18,true,none,aR (.t 13) (.t 17) (.c (.bool (.lit false)))⟩])
 (aO (.t 18) aM (dE 0)))
 (ae (aL 1 (dOps 0 [⟨⟨some 21,false,none,ab (.t 0)⟩,[0],false,0,0,none,[]⟩,
 ⟨⟨some 22,false,none,ab (.t 6)⟩,[6],false,0,0,none,[]⟩,
 ⟨⟨some 23,false,none,bw 2 (.t 21) (.t 22)⟩,[21,22],false,0,0,none,[]⟩,
 ⟨⟨some 24,false,none,ac 2 (.t 23)⟩,[23],false,0,0,none,[]⟩,
 ⟨⟨some 25,false,none,ab (.t 1)⟩,[1],false,0,0,none,[]⟩,
 ⟨⟨some 26,false,none,ab (.t 6)⟩,[6],false,0,0,none,[]⟩,
 ⟨⟨some 27,false,none,bw 2 (.t 25) (.t 26)⟩,[25,26],false,0,0,none,[]⟩,
 ⟨⟨some 28,false,none,ac 2 (.t 27)⟩,[27],false,0,0,none,[]⟩,
 ⟨⟨some 29,false,none,iEq false true 2 [(0,.int),(1,.int)] (.t 24) (.t 28)⟩,[24,28],false,0,0,none,[]⟩,
 ⟨⟨some 5,true,none,ab (.t 29)⟩,[29],false,0,0,none,[]⟩]))
 (al [⟨some 19,false,none,ab (.t 6)⟩,
 ⟨some 20,false,none,aF .add (.t 19) (.c (.int .i64 (.lit 1)))⟩,
 ⟨some 6,true,none,ab (.t 20)⟩]))))))
 (ae (al [⟨some 30,false,none,ab (.t 5)⟩,
 ⟨some 4,true,none,ab (.t 30)⟩])
 bg)))),[.t 4]⟩
noncomputable def Tryd.kp22:List Nat:=[0,1,2,5]
noncomputable def Tryd.cf22:CF:=⟨1,(ae (al [⟨some 1,true,none,cT 27 (.t 0)⟩,
 ⟨some 2,true,none,ab (.c (.int .i64 (.lit 0)))⟩])
 (ae (ae (al [⟨some 3,false,none,ac 23 (.t 1)⟩,
 ⟨some 4,false,none,ar (.c (.func (.func 42) [] [])) [(.t 3)]⟩,
 ⟨some 5,true,none,iNot (.t 4)⟩])
 (aO (.t 5) (ae (al [⟨some 2,true,none,ab (.c (.int .i64 (.lit 40)))⟩])
 bg) aM))
 (ae (al [⟨some 2,true,none,ab (.c (.int .i64 (.lit 0)))⟩])
 bg))),[.t 2]⟩
noncomputable def Tryd.kp23:List Nat:=[0,1,2,3,6]
noncomputable def Tryd.cf23:CF:=⟨3,(ae (al [⟨some 3,true,none,cT 23 (.t 0)⟩,
 ⟨some 6,true,none,ab (.c (.bool (.lit false)))⟩])
 (ae (al [⟨some 7,false,none,ab (.t 1)⟩,
 ⟨some 8,false,none,aa 0 (.t 3)⟩,
 ⟨some 9,false,none,au (.t 8)⟩,
 ⟨some 10,false,none,bF .leq (.t 7) (.t 9)⟩,
 ⟨some 11,false,none,ab (.t 10)⟩,
 ⟨some 12,false,some (11,true),aa 0 (.t 3)⟩,
 ⟨some 13,false,some (11,true),au (.t 12)⟩,
 ⟨some 14,false,some (11,true),aa 1 (.t 3)⟩,
 ⟨some 15,false,some (11,true),au (.t 14)⟩,
 ⟨some 16,false,some (11,true),bF .leq (.t 13) (.t 15)⟩,
 ⟨some 17,false,none,aR (.t 11) (.t 16) (.c (.bool (.lit false)))⟩,
 ⟨some 18,false,none,ab (.t 17)⟩,
 ⟨some 19,false,some (18,true),aa 1 (.t 3)⟩,
 ⟨some 20,false,some (18,true),au (.t 19)⟩,
 ⟨some 21,false,some (18,true),ab (.t 2)⟩,
 ⟨some 22,false,some (18,true),bF .leq (.t 20) (.t 21)⟩,
 ⟨some 23,false,none,aR (.t 18) (.t 22) (.c (.bool (.lit false)))⟩,
 ⟨some 6,true,none,ab (.t 23)⟩])
 bg)),[.t 6]⟩
noncomputable def Tryd.kp24:List Nat:=[0,1,2,4,5,6,7,14,23]
noncomputable def Tryd.cf24:CF:=⟨2,(ae (al [⟨some 2,true,none,cT 27 (.t 0)⟩,
 ⟨some 4,true,none,ay 23 [(.int .i64 (.lit 0)),(.int .i64 (.lit 0))]⟩,
 ⟨some 5,true,none,ab (.c (.int .i64 (.lit 0)))⟩])
 (ae (al [⟨some 9,false,none,ac 23 (.t 2)⟩,
 ⟨some 10,false,none,ar (.c (.func (.func 30) [] [])) [(.t 9)]⟩,
 ⟨some 8,false,none,ab (.t 10)⟩,
 ⟨some 11,false,none,ao 0 (.t 8)⟩,
 ⟨some 12,false,none,ao 1 (.t 8)⟩,
 ⟨some 6,true,none,ay 69 [(.int .i64 (.lit 0)),(.int .i64 (.lit 0)),(.int .i64 (.lit 0)),(.int .i64 (.lit 0)),(.int .i64 (.lit 0)),(.int .i64 (.lit 0)),(.int .i64 (.lit 0)),(.int .i64 (.lit 0)),(.int .i64 (.lit 0)),(.int .i64 (.lit 0)),(.int .i64 (.lit 0)),(.int .i64 (.lit 0)),(.int .i64 (.lit 0)),(.int .i64 (.lit 0)),(.int .i64 (.lit 0)),(.int .i64 (.lit 0)),(.int .i64 (.lit 0)),(.int .i64 (.lit 0)),(.int .i64 (.lit 0)),(.int .i64 (.lit 0)),(.int .i64 (.lit 0)),(.int .i64 (.lit 0)),.nilslice,(.int .i64 (.lit 0)),(.int .i64 (.lit 0)),(.int .i64 (.lit 0)),(.int .i64 (.lit 0)),(.int .i64 (.lit 0)),(.int .i64 (.lit 0)),(.int .i64 (.lit 0)),(.int .i64 (.lit 0)),(.int .i64 (.lit 0)),(.int .i64 (.lit 0)),(.int .i64 (.lit 0)),(.int .i64 (.lit 0)),(.int .i64 (.lit 0)),(.int .i64 (.lit 0)),(.int .i64 (.lit 0)),(.int .i64 (.lit 0))]⟩,
 ⟨none,false,none,aj 39 (.t 6) (.t 11)⟩,
 ⟨some 7,true,none,ab (.t 12)⟩])
 (ae (ae (al [⟨some 13,false,none,ab (.t 7)⟩,
 ⟨some 14,true,none,bF .neq (.t 13) (.c (.int .i64 (.lit 0)))⟩])
 (aO (.t 14) (ae (al [⟨some 15,false,none,aK [(.int .i64 (.lit 0)),(.int .i64 (.lit 0))] []⟩,
 ⟨some 16,false,none,ab (.t 7)⟩,
 ⟨none,false,none,aj 2 (.t 4) (.t 15)⟩,
 ⟨some 5,true,none,ab (.t 16)⟩])
 bg) aM))
 (ae (ae (al [⟨some 17,false,none,ab (.t 1)⟩,
 ⟨some 18,false,none,aa 0 (.t 6)⟩,
 ⟨some 19,false,none,aa 5 (.t 18)⟩,
 ⟨some 20,false,none,au (.t 19)⟩,
 ⟨some 21,false,none,aK [(.int .i64 (.lit 0)),(.int .i64 (.lit 0))] [(0,1,(.c (.int .i64 (.lit 0)))),(1,1,(.t 20))]⟩,
 ⟨some 22,false,none,ar (.c (.func (.func 43) [] [])) [(.t 17),(.t 21)]⟩,
 ⟨some 23,true,none,iNot (.t 22)⟩])
 (aO (.t 23) (ae (al [⟨some 24,false,none,aK [(.int .i64 (.lit 0)),(.int .i64 (.lit 0))] []⟩,
 ⟨none,false,none,aj 2 (.t 4) (.t 24)⟩,
 ⟨some 5,true,none,ab (.c (.int .i64 (.lit 41)))⟩])
 bg) aM))
 (ae (al [⟨some 25,false,none,ac 39 (.t 6)⟩,
 ⟨some 26,false,none,ab (.t 1)⟩,
 ⟨some 27,false,none,ar (.c (.func (.func 44) [] [])) [(.t 25),(.t 26)]⟩,
 ⟨none,false,none,aj 2 (.t 4) (.t 27)⟩,
 ⟨some 5,true,none,ab (.c (.int .i64 (.lit 0)))⟩])
 bg))))),[.cell 4 true 2,.t 5]⟩
noncomputable def Tryd.kp25:List Nat:=[0]
noncomputable def Tryd.cf25:CF:=⟨0,(ae (al [⟨some 0,true,none,ay 27 [(.int .i64 (.lit 0)),(.int .i64 (.lit 0)),(.int .i64 (.lit 0)),(.int .i64 (.lit 0)),(.int .i64 (.lit 0)),(.int .i64 (.lit 0)),(.int .i64 (.lit 0)),(.int .i64 (.lit 0)),(.int .i64 (.lit 0)),(.int .i64 (.lit 0)),(.int .i64 (.lit 0)),(.int .i64 (.lit 0)),(.int .i64 (.lit 0)),(.int .i64 (.lit 0)),(.int .i64 (.lit 0)),(.int .i64 (.lit 0)),(.int .i64 (.lit 0)),(.int .i64 (.lit 0)),(.int .i64 (.lit 0)),(.int .i64 (.lit 0)),(.int .i64 (.lit 0)),(.int .i64 (.lit 0)),.nilslice]⟩])
 (ae (al [⟨some 1,false,none,ar (.c (.func (.func 20) [] [])) [(.c (.int .i64 (.lit 20))),(.c (.int .i64 (.lit 24)))]⟩,
 ⟨some 2,false,none,ar (.c (.func (.func 20) [] [])) [(.c (.int .i64 (.lit 30))),(.c (.int .i64 (.lit 30)))]⟩,
 ⟨some 3,false,none,ar (.c (.func (.func 20) [] [])) [(.c (.int .i64 (.lit 0))),(.c (.int .i64 (.lit 1)))]⟩,
 ⟨some 4,false,none,ar (.c (.func (.func 20) [] [])) [(.c (.int .i64 (.lit 1))),(.c (.int .i64 (.lit 2)))]⟩,
 ⟨some 5,false,none,aK [(.int .i64 (.lit 0)),(.int .i64 (.lit 0)),(.int .i64 (.lit 0)),(.int .i64 (.lit 0))] [(0,2,(.t 3)),(2,2,(.t 4))]⟩,
 ⟨some 6,false,none,ar (.c (.func (.func 20) [] [])) [(.c (.int .i64 (.lit 0))),(.c (.int .i64 (.lit 1)))]⟩,
 ⟨some 7,false,none,ar (.c (.func (.func 20) [] [])) [(.c (.int .i64 (.lit 1))),(.c (.int .i64 (.lit 1)))]⟩,
 ⟨some 8,false,none,aK [(.int .i64 (.lit 0)),(.int .i64 (.lit 0)),(.int .i64 (.lit 0)),(.int .i64 (.lit 0))] [(0,2,(.t 6)),(2,2,(.t 7))]⟩,
 ⟨some 9,false,none,ar (.c (.func (.func 20) [] [])) [(.c (.int .i64 (.lit 20))),(.c (.int .i64 (.lit 24)))]⟩,
 ⟨some 10,false,none,ar (.c (.func (.func 20) [] [])) [(.c (.int .i64 (.lit 12))),(.c (.int .i64 (.lit 16)))]⟩,
 ⟨some 11,false,none,ar (.c (.func (.func 45) [] [])) [(.c (.int .i64 (.lit 5))),(.c (.int .i64 (.lit 6))),(.c (.bool (.lit false))),(.c (.int .i64 (.lit 0)))]⟩,
 ⟨some 12,false,none,ar (.c (.func (.func 45) [] [])) [(.c (.int .i64 (.lit 10))),(.c (.int .i64 (.lit 12))),(.c (.bool (.lit true))),(.c (.int .i64 (.lit 2)))]⟩,
 ⟨some 13,false,none,ar (.c (.func (.func 45) [] [])) [(.c (.int .i64 (.lit 3))),(.c (.int .i64 (.lit 4))),(.c (.bool (.lit false))),(.c (.int .i64 (.lit 1)))]⟩,
 ⟨some 14,false,none,ar (.c (.func (.func 45) [] [])) [(.c (.int .i64 (.lit 8))),(.c (.int .i64 (.lit 8))),(.c (.bool (.lit true))),(.c (.int .i64 (.lit 5)))]⟩,
 ⟨some 15,false,none,cN 33 [(.int .i64 (.lit 0)),(.int .i64 (.lit 0)),(.bool (.lit false)),(.int .i64 (.lit 0))] 4 [(0,4,(.t 11)),(4,4,(.t 12)),(8,4,(.t 13)),(12,4,(.t 14))]⟩,
 ⟨some 16,false,none,aK [(.int .i64 (.lit 0)),(.int .i64 (.lit 0)),(.int .i64 (.lit 0)),(.int .i64 (.lit 0)),(.int .i64 (.lit 0)),(.int .i64 (.lit 0)),(.int .i64 (.lit 0)),(.int .i64 (.lit 0)),(.int .i64 (.lit 0)),(.int .i64 (.lit 0)),(.int .i64 (.lit 0)),(.int .i64 (.lit 0)),(.int .i64 (.lit 0)),(.int .i64 (.lit 0)),(.int .i64 (.lit 0)),(.int .i64 (.lit 0)),(.int .i64 (.lit 0)),(.int .i64 (.lit 0)),(.int .i64 (.lit 0)),(.int .i64 (.lit 0)),(.int .i64 (.lit 0)),(.int .i64 (.lit 0)),.nilslice] [(0,2,(.t 1)),(2,2,(.t 2)),(4,1,(.c (.int .i64 (.lit 40)))),(5,1,(.c (.int .i64 (.lit 40)))),(6,1,(.c (.int .i64 (.lit 6)))),(7,1,(.c (.int .i64 (.lit 10)))),(8,4,(.t 5)),(12,4,(.t 8)),(16,2,(.t 9)),(18,2,(.t 10)),(20,1,(.c (.int .i64 (.lit 10)))),(21,1,(.c (.int .i64 (.lit 18)))),(22,1,(.t 15))]⟩,
 ⟨none,false,none,aj 23 (.t 0) (.t 16)⟩])
 bg)),[.cell 0 true 23]⟩
noncomputable def Tryd.kp26:List Nat:=[0]
noncomputable def Tryd.cf26:CF:=⟨0,(ae (al [⟨some 0,true,none,ab (.c .nilslice)⟩])
 (ae (al [⟨some 1,false,none,aK [(.int .i64 (.lit 0)),(.int .i64 (.lit 0))] []⟩,
 ⟨some 2,false,none,aK [(.int .i64 (.lit 0)),(.int .i64 (.lit 0))] [(0,1,(.c (.int .i64 (.lit 2))))]⟩,
 ⟨some 3,false,none,aK [(.int .i64 (.lit 0)),(.int .i64 (.lit 0))] [(0,1,(.c (.int .i64 (.lit 1))))]⟩,
 ⟨some 4,false,none,aK [(.int .i64 (.lit 0)),(.int .i64 (.lit 0))] [(0,1,(.c (.int .i64 (.lit 2)))),(1,1,(.c (.int .i64 (.lit 1))))]⟩,
 ⟨some 5,false,none,cN 76 [(.int .i64 (.lit 0)),(.int .i64 (.lit 0))] 4 [(0,2,(.t 1)),(2,2,(.t 2)),(4,2,(.t 3)),(6,2,(.t 4))]⟩,
 ⟨some 0,true,none,ab (.t 5)⟩])
 bg)),[.t 0]⟩
noncomputable def Tryd.kp27:List Nat:=[0]
noncomputable def Tryd.cf27:CF:=⟨0,(ae (al [⟨some 0,true,none,ab (.c .nilslice)⟩])
 (ae (al [⟨some 1,false,none,aK [(.int .i64 (.lit 0)),(.int .i64 (.lit 0))] []⟩,
 ⟨some 2,false,none,aK [(.int .i64 (.lit 0)),(.int .i64 (.lit 0))] [(0,1,(.c (.int .i64 (.lit 1))))]⟩,
 ⟨some 3,false,none,aK [(.int .i64 (.lit 0)),(.int .i64 (.lit 0))] [(0,1,(.c (.int .i64 (.lit 1))))]⟩,
 ⟨some 4,false,none,aK [(.int .i64 (.lit 0)),(.int .i64 (.lit 0))] [(0,1,(.c (.int .i64 (.lit 2)))),(1,1,(.c (.int .i64 (.lit 1))))]⟩,
 ⟨some 5,false,none,cN 76 [(.int .i64 (.lit 0)),(.int .i64 (.lit 0))] 4 [(0,2,(.t 1)),(2,2,(.t 2)),(4,2,(.t 3)),(6,2,(.t 4))]⟩,
 ⟨some 0,true,none,ab (.t 5)⟩])
 bg)),[.t 0]⟩
noncomputable def Tryd.kp28:List Nat:=[0,1,2,4,5,6,7,8,15,20,27]
noncomputable def Tryd.cf28:CF:=⟨2,(ae (al [⟨some 2,true,none,cT 27 (.t 0)⟩,
 ⟨some 4,true,none,ab (.c (.int .i64 (.lit 0)))⟩,
 ⟨some 5,true,none,ab (.c (.int .i64 (.lit 0)))⟩])
 (ae (al [⟨some 10,false,none,ac 23 (.t 2)⟩,
 ⟨some 11,false,none,ar (.c (.func (.func 30) [] [])) [(.t 10)]⟩,
 ⟨some 9,false,none,ab (.t 11)⟩,
 ⟨some 12,false,none,ao 0 (.t 9)⟩,
 ⟨some 13,false,none,ao 1 (.t 9)⟩,
 ⟨some 6,true,none,ay 69 [(.int .i64 (.lit 0)),(.int .i64 (.lit 0)),(.int .i64 (.lit 0)),(.int .i64 (.lit 0)),(.int .i64 (.lit 0)),(.int .i64 (.lit 0)),(.int .i64 (.lit 0)),(.int .i64 (.lit 0)),(.int .i64 (.lit 0)),(.int .i64 (.lit 0)),(.int .i64 (.lit 0)),(.int .i64 (.lit 0)),(.int .i64 (.lit 0)),(.int .i64 (.lit 0)),(.int .i64 (.lit 0)),(.int .i64 (.lit 0)),(.int .i64 (.lit 0)),(.int .i64 (.lit 0)),(.int .i64 (.lit 0)),(.int .i64 (.lit 0)),(.int .i64 (.lit 0)),(.int .i64 (.lit 0)),.nilslice,(.int .i64 (.lit 0)),(.int .i64 (.lit 0)),(.int .i64 (.lit 0)),(.int .i64 (.lit 0)),(.int .i64 (.lit 0)),(.int .i64 (.lit 0)),(.int .i64 (.lit 0)),(.int .i64 (.lit 0)),(.int .i64 (.lit 0)),(.int .i64 (.lit 0)),(.int .i64 (.lit 0)),(.int .i64 (.lit 0)),(.int .i64 (.lit 0)),(.int .i64 (.lit 0)),(.int .i64 (.lit 0)),(.int .i64 (.lit 0))]⟩,
 ⟨none,false,none,aj 39 (.t 6) (.t 12)⟩,
 ⟨some 7,true,none,ab (.t 13)⟩])
 (ae (ae (al [⟨some 14,false,none,ab (.t 7)⟩,
 ⟨some 15,true,none,bF .neq (.t 14) (.c (.int .i64 (.lit 0)))⟩])
 (aO (.t 15) (ae (al [⟨some 16,false,none,ab (.t 7)⟩,
 ⟨some 4,true,none,ab (.c (.int .i64 (.lit 0)))⟩,
 ⟨some 5,true,none,ab (.t 16)⟩])
 bg) aM))
 (ae (ae (al [⟨some 17,false,none,ac 39 (.t 6)⟩,
 ⟨some 18,false,none,ab (.t 1)⟩,
 ⟨some 19,false,none,ar (.c (.func (.func 40) [] [])) [(.t 17),(.t 18)]⟩,
 ⟨some 20,true,none,iNot (.t 19)⟩])
 (aO (.t 20) (ae (al [⟨some 4,true,none,ab (.c (.int .i64 (.lit 0)))⟩,
 ⟨some 5,true,none,ab (.c (.int .i64 (.lit 41)))⟩])
 bg) aM))
 (ae (al [⟨some 21,false,none,ac 39 (.t 6)⟩,
 ⟨some 22,false,none,ab (.t 1)⟩,
 ⟨some 23,false,none,aK [(.int .i64 (.lit 0)),(.int .i64 (.lit 0)),(.int .i64 (.lit 0)),(.int .i64 (.lit 0)),(.int .i64 (.lit 0)),(.int .i64 (.lit 0)),(.int .i64 (.lit 0)),(.int .i64 (.lit 0)),(.int .i64 (.lit 0)),(.int .i64 (.lit 0)),(.int .i64 (.lit 0)),(.int .i64 (.lit 0)),(.int .i64 (.lit 0)),(.int .i64 (.lit 0)),(.int .i64 (.lit 0)),(.int .i64 (.lit 0)),(.int .i64 (.lit 0)),(.int .i64 (.lit 0)),(.int .i64 (.lit 0)),(.int .i64 (.lit 0)),(.int .i64 (.lit 0)),(.int .i64 (.lit 0)),.nilslice,(.int .i64 (.lit 0)),(.int .i64 (.lit 0)),(.int .i64 (.lit 0)),(.int .i64 (.lit 0)),(.int .i64 (.lit 0)),(.int .i64 (.lit 0)),(.int .i64 (.lit 0)),(.int .i64 (.lit 0)),(.int .i64 (.lit 0)),(.int .i64 (.lit 0)),(.int .i64 (.lit 0)),(.int .i64 (.lit 0)),(.int .i64 (.lit 0)),(.int .i64 (.lit 0)),(.int .i64 (.lit 0)),(.int .i64 (.lit 0)),(.int .i64 (.lit 0))] [(0,39,(.t 21)),(39,1,(.t 22))]⟩,
 ⟨some 24,false,none,iFunc (.func 46) [(.t 23)] []⟩,
 ⟨some 25,false,none,ar (.c (.func (.func 32) [] [])) [(.c (.int .i64 (.lit 60))),(.t 24)]⟩,
 ⟨some 8,true,none,ab (.t 25)⟩])
 (ae (ae (al [⟨some 26,false,none,ab (.t 8)⟩,
 ⟨some 27,true,none,bF .lss (.t 26) (.c (.int .i64 (.lit 0)))⟩])
 (aO (.t 27) (ae (al [⟨some 4,true,none,ab (.c (.int .i64 (.lit 0)))⟩,
 ⟨some 5,true,none,ab (.c (.int .i64 (.lit 4)))⟩])
 bg) aM))
 (ae (al [⟨some 28,false,none,ab (.t 8)⟩,
 ⟨some 4,true,none,ab (.t 28)⟩,
 ⟨some 5,true,none,ab (.c (.int .i64 (.lit 0)))⟩])
 bg))))))),[.t 4,.t 5]⟩
noncomputable def Tryd.kp29:List Nat:=[0,1,2,3,4,5,6,13,26]
noncomputable def Tryd.cf29:CF:=⟨1,(ae (al [⟨some 1,true,none,cT 27 (.t 0)⟩,
 ⟨some 2,true,none,ab (.c (.int .i64 (.lit 0)))⟩,
 ⟨some 3,true,none,ab (.c (.int .i64 (.lit 0)))⟩])
 (ae (al [⟨some 8,false,none,ac 23 (.t 1)⟩,
 ⟨some 9,false,none,ar (.c (.func (.func 30) [] [])) [(.t 8)]⟩,
 ⟨some 7,false,none,ab (.t 9)⟩,
 ⟨some 10,false,none,ao 0 (.t 7)⟩,
 ⟨some 11,false,none,ao 1 (.t 7)⟩,
 ⟨some 4,true,none,ay 69 [(.int .i64 (.lit 0)),(.int .i64 (.lit 0)),(.int .i64 (.lit 0)),(.int .i64 (.lit 0)),(.int .i64 (.lit 0)),(.int .i64 (.lit 0)),(.int .i64 (.lit 0)),(.int .i64 (.lit 0)),(.int .i64 (.lit 0)),(.int .i64 (.lit 0)),(.int .i64 (.lit 0)),(.int .i64 (.lit 0)),(.int .i64 (.lit 0)),(.int .i64 (.lit 0)),(.int .i64 (.lit 0)),(.int .i64 (.lit 0)),(.int .i64 (.lit 0)),(.int .i64 (.lit 0)),(.int .i64 (.lit 0)),(.int .i64 (.lit 0)),(.int .i64 (.lit 0)),(.int .i64 (.lit 0)),.nilslice,(.int .i64 (.lit 0)),(.int .i64 (.lit 0)),(.int .i64 (.lit 0)),(.int .i64 (.lit 0)),(.int .i64 (.lit 0)),(.int .i64 (.lit 0)),(.int .i64 (.lit 0)),(.int .i64 (.lit 0)),(.int .i64 (.lit 0)),(.int .i64 (.lit 0)),(.int .i64 (.lit 0)),(.int .i64 (.lit 0)),(.int .i64 (.lit 0)),(.int .i64 (.lit 0)),(.int .i64 (.lit 0)),(.int .i64 (.lit 0))]⟩,
 ⟨none,false,none,aj 39 (.t 4) (.t 10)⟩,
 ⟨some 5,true,none,ab (.t 11)⟩])
 (ae (ae (al [⟨some 12,false,none,ab (.t 5)⟩,
 ⟨some 13,true,none,bF .neq (.t 12) (.c (.int .i64 (.lit 0)))⟩])
 (aO (.t 13) (ae (al [⟨some 14,false,none,ab (.t 5)⟩,
 ⟨some 2,true,none,ab (.c (.int .i64 (.lit 0)))⟩,
 ⟨some 3,true,none,ab (.t 14)⟩])
 bg) aM))
 (ae (al [⟨some 15,false,none,aa 0 (.t 4)⟩,
 ⟨some 16,false,none,aa 4 (.t 15)⟩,
 ⟨some 17,false,none,au (.t 16)⟩,
 ⟨some 18,false,none,aF .add (.t 17) (.c (.int .i64 (.lit 1)))⟩,
 ⟨some 19,false,none,ac 39 (.t 4)⟩,
 ⟨some 20,false,none,iFunc (.func 48) [(.t 19)] []⟩,
 ⟨some 21,false,none,ar (.c (.func (.func 47) [] [])) [(.t 18),(.t 20)]⟩,
 ⟨some 6,true,none,ab (.t 21)⟩])
 (ae (ae (al [⟨some 22,false,none,ab (.t 6)⟩,
 ⟨some 23,false,none,aa 0 (.t 4)⟩,
 ⟨some 24,false,none,aa 4 (.t 23)⟩,
 ⟨some 25,false,none,au (.t 24)⟩,
 ⟨some 26,true,none,bF .gtr (.t 22) (.t 25)⟩])
 (aO (.t 26) (ae (al [⟨some 2,true,none,ab (.c (.int .i64 (.lit 0)))⟩,
 ⟨some 3,true,none,ab (.c (.int .i64 (.lit 4)))⟩])
 bg) aM))
 (ae (al [⟨some 27,false,none,ab (.t 6)⟩,
 ⟨some 2,true,none,ab (.t 27)⟩,
 ⟨some 3,true,none,ab (.c (.int .i64 (.lit 0)))⟩])
 bg)))))),[.t 2,.t 3]⟩
noncomputable def Tryd.kp30:List Nat:=[0,1,2,3,4,8]
noncomputable def Tryd.cf30:CF:=⟨1,(ae (al [⟨some 1,true,none,cT 27 (.t 0)⟩,
 ⟨some 2,true,none,ay 69 [(.int .i64 (.lit 0)),(.int .i64 (.lit 0)),(.int .i64 (.lit 0)),(.int .i64 (.lit 0)),(.int .i64 (.lit 0)),(.int .i64 (.lit 0)),(.int .i64 (.lit 0)),(.int .i64 (.lit 0)),(.int .i64 (.lit 0)),(.int .i64 (.lit 0)),(.int .i64 (.lit 0)),(.int .i64 (.lit 0)),(.int .i64 (.lit 0)),(.int .i64 (.lit 0)),(.int .i64 (.lit 0)),(.int .i64 (.lit 0)),(.int .i64 (.lit 0)),(.int .i64 (.lit 0)),(.int .i64 (.lit 0)),(.int .i64 (.lit 0)),(.int .i64 (.lit 0)),(.int .i64 (.lit 0)),.nilslice,(.int .i64 (.lit 0)),(.int .i64 (.lit 0)),(.int .i64 (.lit 0)),(.int .i64 (.lit 0)),(.int .i64 (.lit 0)),(.int .i64 (.lit 0)),(.int .i64 (.lit 0)),(.int .i64 (.lit 0)),(.int .i64 (.lit 0)),(.int .i64 (.lit 0)),(.int .i64 (.lit 0)),(.int .i64 (.lit 0)),(.int .i64 (.lit 0)),(.int .i64 (.lit 0)),(.int .i64 (.lit 0)),(.int .i64 (.lit 0))]⟩,
 ⟨some 3,true,none,ab (.c (.int .i64 (.lit 0)))⟩])
 (ae (ae (al [⟨some 5,false,none,ac 23 (.t 1)⟩,
 ⟨some 6,false,none,ar (.c (.func (.func 22) [] [])) [(.t 5)]⟩,
 ⟨some 4,true,none,ab (.t 6)⟩])
 (ae (al [⟨some 7,false,none,ab (.t 4)⟩,
 ⟨some 8,true,none,bF .neq (.t 7) (.c (.int .i64 (.lit 0)))⟩])
 (aO (.t 8) (ae (al [⟨some 9,false,none,aK [(.int .i64 (.lit 0)),(.int .i64 (.lit 0)),(.int .i64 (.lit 0)),(.int .i64 (.lit 0)),(.int .i64 (.lit 0)),(.int .i64 (.lit 0)),(.int .i64 (.lit 0)),(.int .i64 (.lit 0)),(.int .i64 (.lit 0)),(.int .i64 (.lit 0)),(.int .i64 (.lit 0)),(.int .i64 (.lit 0)),(.int .i64 (.lit 0)),(.int .i64 (.lit 0)),(.int .i64 (.lit 0)),(.int .i64 (.lit 0)),(.int .i64 (.lit 0)),(.int .i64 (.lit 0)),(.int .i64 (.lit 0)),(.int .i64 (.lit 0)),(.int .i64 (.lit 0)),(.int .i64 (.lit 0)),.nilslice,(.int .i64 (.lit 0)),(.int .i64 (.lit 0)),(.int .i64 (.lit 0)),(.int .i64 (.lit 0)),(.int .i64 (.lit 0)),(.int .i64 (.lit 0)),(.int .i64 (.lit 0)),(.int .i64 (.lit 0)),(.int .i64 (.lit 0)),(.int .i64 (.lit 0)),(.int .i64 (.lit 0)),(.int .i64 (.lit 0)),(.int .i64 (.lit 0)),(.int .i64 (.lit 0)),(.int .i64 (.lit 0)),(.int .i64 (.lit 0))] []⟩,
 ⟨some 10,false,none,ab (.t 4)⟩,
 ⟨none,false,none,aj 39 (.t 2) (.t 9)⟩,
 ⟨some 3,true,none,ab (.t 10)⟩])
 bg) aM)))
 (ae (al [⟨some 11,false,none,ac 23 (.t 1)⟩,
 ⟨some 12,false,none,ar (.c (.func (.func 49) [] [])) [(.t 11)]⟩,
 ⟨none,false,none,aj 39 (.t 2) (.t 12)⟩,
 ⟨some 3,true,none,ab (.c (.int .i64 (.lit 0)))⟩])
 bg))),[.cell 2 true 39,.t 3]⟩
noncomputable def Tryd.kp31:List Nat:=[0,1,2,3,4,6,7,8,9,23,30,31,32]
noncomputable def Tryd.cf31:CF:=⟨1,(ae (al [⟨some 1,true,none,cT 69 (.t 0)⟩,
 ⟨some 2,true,none,ab (.c .nilslice)⟩,
 ⟨some 3,true,none,ab (.c (.int .i64 (.lit 0)))⟩])
 (ae (al [⟨some 11,false,none,ar (.c (.func (.func 50) [] [])) []⟩,
 ⟨some 10,false,none,ab (.t 11)⟩,
 ⟨some 12,false,none,ao 0 (.t 10)⟩,
 ⟨some 13,false,none,ao 1 (.t 10)⟩,
 ⟨some 4,true,none,ay 95 [.nilFunc,.nilFunc]⟩,
 ⟨some 5,false,none,ay 95 [.nilFunc,.nilFunc]⟩,
 ⟨none,false,none,aj 2 (.t 4) (.t 12)⟩,
 ⟨none,false,none,aj 2 (.t 5) (.t 13)⟩])
 (ae (al [⟨some 14,false,none,ac 39 (.t 1)⟩,
 ⟨some 15,false,none,ar (.c (.func (.func 51) [] [])) [(.t 14)]⟩,
 ⟨some 6,true,none,ab (.t 15)⟩])
 (ae (al [⟨some 16,false,none,ac 39 (.t 1)⟩,
 ⟨some 17,false,none,ac 2 (.t 4)⟩,
 ⟨some 18,false,none,ar (.c (.func (.func 52) [] [])) [(.t 16),(.t 17)]⟩,
 ⟨some 7,true,none,ay 102 [(.int .i64 (.lit 0)),(.int .i64 (.lit 0)),(.int .i64 (.lit 0))]⟩,
 ⟨none,false,none,aj 3 (.t 7) (.t 18)⟩])
 (ae (ae (al [⟨some 19,false,none,ab (.t 6)⟩,
 ⟨some 20,false,none,ac 3 (.t 7)⟩,
 ⟨some 21,false,none,dX (.agg [(.bool (.lit false)),(.int .i64 (.lit 0)),(.int .i64 (.lit 0)),(.int .i64 (.lit 0)),(.int .i64 (.lit 0)),(.int .i64 (.lit 0)),(.int .i64 (.lit 0)),(.int .i64 (.lit 0)),(.int .i64 (.lit 0))]) true 3 [(0,.int),(1,.int),(2,.int)] false (.t 19) (.t 20)⟩,
 ⟨some 22,false,none,iField false 0 1 (.t 21)⟩,
 ⟨some 23,true,none,iNot (.t 22)⟩])
 (aO (.t 23) (ae (al [⟨some 2,true,none,ab (.c .nilslice)⟩,
 ⟨some 3,true,none,ab (.c (.int .i64 (.lit 4)))⟩])
 bg) aM))
 (ae (al [⟨some 24,false,none,aa 0 (.t 1)⟩,
 ⟨some 25,false,none,aa 22 (.t 24)⟩,
 ⟨some 26,false,none,au (.t 25)⟩,
 ⟨some 27,false,none,cO (.t 26)⟩,
 ⟨some 28,false,none,iMkslice 76 [(.int .i64 (.lit 0)),(.int .i64 (.lit 0))] 16 (.t 27) (.t 27)⟩,
 ⟨some 8,true,none,ab (.t 28)⟩])
 (ae (ae (al [⟨some 29,false,none,ab (.t 8)⟩,
 ⟨some 30,true,none,cO (.t 29)⟩,
 ⟨some 31,true,none,ab (.c (.int .i64 (.lit 0)))⟩])
 (aL 0 (eP (ae (al [⟨some 32,true,none,bF .lss (.t 31) (.t 30)⟩])
 (ae (aO (.t 32) aM (dE 0))
 (ae (aL 1 (ae (al [⟨some 33,false,none,ab (.t 31)⟩,
 ⟨some 9,true,none,ab (.t 33)⟩])
 (ae (al [⟨some 34,false,none,ab (.t 8)⟩,
 ⟨some 35,false,none,ab (.t 9)⟩,
 ⟨some 36,false,none,ab (.t 6)⟩,
 ⟨some 37,false,none,ac 3 (.t 7)⟩,
 ⟨some 38,false,none,dX (.agg [(.bool (.lit false)),(.int .i64 (.lit 0)),(.int .i64 (.lit 0)),(.int .i64 (.lit 0)),(.int .i64 (.lit 0)),(.int .i64 (.lit 0)),(.int .i64 (.lit 0)),(.int .i64 (.lit 0)),(.int .i64 (.lit 0))]) true 3 [(0,.int),(1,.int),(2,.int)] false (.t 36) (.t 37)⟩,
 ⟨some 39,false,none,iField true 2 7 (.t 38)⟩,
 ⟨some 40,false,none,iField true 0 2 (.t 39)⟩,
 ⟨some 41,false,none,bw 2 (.t 34) (.t 35)⟩,
 ⟨none,false,none,aj 2 (.t 41) (.t 40)⟩])
 (al [⟨some 42,false,none,ab (.t 6)⟩,
 ⟨some 43,false,none,ac 3 (.t 7)⟩,
 ⟨some 44,false,none,dX (.agg [(.bool (.lit false)),(.int .i64 (.lit 0)),(.int .i64 (.lit 0)),(.int .i64 (.lit 0)),(.int .i64 (.lit 0)),(.int .i64 (.lit 0)),(.int .i64 (.lit 0)),(.int .i64 (.lit 0)),(.int .i64 (.lit 0))]) true 3 [(0,.int),(1,.int),(2,.int)] false (.t 42) (.t 43)⟩,
 ⟨some 45,false,none,iField true 2 7 (.t 44)⟩,
 ⟨some 46,false,none,iField true 2 3 (.t 45)⟩,
 ⟨none,false,none,aj 3 (.t 7) (.t 46)⟩]))))
 (al [⟨some 47,false,none,aF .add (.t 31) (.c (.int .i64 (.lit 1)))⟩,
 ⟨some 31,true,none,ab (.t 47)⟩])))))))
 (ae (al [⟨some 48,false,none,ab (.t 8)⟩,
 ⟨some 2,true,none,ab (.t 48)⟩,
 ⟨some 3,true,none,ab (.c (.int .i64 (.lit 0)))⟩])
 bg)))))))),[.t 2,.t 3]⟩
noncomputable def Tryd.kp32:List Nat:=[0,1,3,4]
noncomputable def Tryd.cf32:CF:=⟨2,(ae (al [⟨some 3,true,none,cT 74 (.t 1)⟩,
 ⟨some 4,true,none,ab (.c (.int .i64 (.lit 0)))⟩])
 (ae (al [⟨some 5,false,none,ab (.t 0)⟩,
 ⟨some 6,false,none,aF .add (.t 5) (.c (.int .i64 (.lit 1)))⟩,
 ⟨some 7,false,none,iFunc (.func 53) [] [(.t 3)]⟩,
 ⟨some 8,false,none,ar (.c (.func (.func 47) [] [])) [(.t 6),(.t 7)]⟩,
 ⟨some 9,false,none,aF .sub (.t 8) (.c (.int .i64 (.lit 1)))⟩,
 ⟨some 4,true,none,ab (.t 9)⟩])
 bg)),[.t 4]⟩
noncomputable def Tryd.kp33:List Nat:=[0,1,2,4,5]
noncomputable def Tryd.cf33:CF:=⟨2,(ae (al [⟨some 2,true,none,cT 69 (.t 0)⟩,
 ⟨some 4,true,none,ab (.c (.bool (.lit false)))⟩])
 (ae (al [⟨some 6,false,none,aa 0 (.t 2)⟩,
 ⟨some 7,false,none,ac 23 (.t 6)⟩,
 ⟨some 5,true,none,ay 27 [(.int .i64 (.lit 0)),(.int .i64 (.lit 0)),(.int .i64 (.lit 0)),(.int .i64 (.lit 0)),(.int .i64 (.lit 0)),(.int .i64 (.lit 0)),(.int .i64 (.lit 0)),(.int .i64 (.lit 0)),(.int .i64 (.lit 0)),(.int .i64 (.lit 0)),(.int .i64 (.lit 0)),(.int .i64 (.lit 0)),(.int .i64 (.lit 0)),(.int .i64 (.lit 0)),(.int .i64 (.lit 0)),(.int .i64 (.lit 0)),(.int .i64 (.lit 0)),(.int .i64 (.lit 0)),(.int .i64 (.lit 0)),(.int .i64 (.lit 0)),(.int .i64 (.lit 0)),(.int .i64 (.lit 0)),.nilslice]⟩,
 ⟨none,false,none,aj 23 (.t 5) (.t 7)⟩])
 (ae (al [⟨some 8,false,none,aa 22 (.t 5)⟩,
 ⟨some 9,false,none,au (.t 8)⟩,
 ⟨some 10,false,none,ab (.t 1)⟩,
 ⟨some 11,false,none,ab (.t 1)⟩,
 ⟨some 12,false,none,iSlice 4 (.t 9) none (some (.t 10)) (some (.t 11))⟩,
 ⟨some 13,false,none,aa 22 (.t 5)⟩,
 ⟨none,false,none,aj 1 (.t 13) (.t 12)⟩])
 (ae (al [⟨some 14,false,none,ac 23 (.t 5)⟩,
 ⟨some 15,false,none,ar (.c (.func (.func 49) [] [])) [(.t 14)]⟩,
 ⟨some 16,false,none,ar (.c (.func (.func 54) [] [])) [(.t 15)]⟩,
 ⟨some 4,true,none,ab (.t 16)⟩])
 bg)))),[.t 4]⟩
noncomputable def Tryd.kp34:List Nat:=[0,1,2,3,4,5]
noncomputable def Tryd.cf34:CF:=⟨2,(ae (al [⟨some 2,true,none,cT 23 (.t 0)⟩,
 ⟨some 3,true,none,cT 78 (.t 1)⟩,
 ⟨some 4,true,none,ab (.c (.int .i64 (.lit 0)))⟩,
 ⟨some 5,true,none,ay 78 [.nilslice,(.int .i64 (.lit 0))]⟩])
 (ae (dOps 0 [⟨⟨some 6,false,none,ac 2 (.t 2)⟩,[2],false,0,1,none,[]⟩,
 ⟨⟨some 7,false,none,aa 0 (.t 3)⟩,[3],false,0,0,none,[]⟩,
 ⟨⟨some 8,false,none,au (.t 7)⟩,[7],false,0,0,none,[]⟩,
 ⟨⟨some 9,false,none,aa 1 (.t 3)⟩,[3],false,0,0,none,[]⟩,
 ⟨⟨some 10,false,none,au (.t 9)⟩,[9],false,0,0,none,[]⟩,
 ⟨⟨some 11,false,none,ar (.c (.func (.func 36) [] [])) [(.t 8),(.t 10)]⟩,[8,10],true,0,0,none,[]⟩,
 ⟨⟨some 12,false,none,ar (.c (.func (.func 55) [] [])) [(.t 6),(.t 11)]⟩,[6,11],true,1,0,none,[]⟩,
 ⟨⟨some 13,false,none,aa 0 (.t 3)⟩,[3],false,0,2,none,[]⟩,
 ⟨⟨some 14,false,none,au (.t 13)⟩,[13],false,0,2,none,[]⟩,
 ⟨⟨some 15,false,none,aa 1 (.t 3)⟩,[3],false,0,2,none,[]⟩,
 ⟨⟨some 16,false,none,au (.t 15)⟩,[15],false,0,2,none,[]⟩,
 ⟨⟨some 17,false,none,aF .add (.t 16) (.c (.int .i64 (.lit 1)))⟩,[16],false,0,2,none,[]⟩,
 ⟨⟨some 18,false,none,aK [.nilslice,(.int .i64 (.lit 0))] [(0,1,(.t 14)),(1,1,(.t 17))]⟩,[14,17],false,0,2,none,[]⟩,
 ⟨⟨some 4,true,none,ab (.t 12)⟩,[12],false,2,2,none,[]⟩,
 ⟨⟨none,false,none,aj 2 (.t 5) (.t 18)⟩,[5,18],true,2,0,none,[]⟩])
 bg)),[.t 4,.cell 5 true 2]⟩
noncomputable def Tryd.kp36:List Nat:=[0,1,4,7]
noncomputable def Tryd.cf36:CF:=⟨2,(ae (al [⟨some 4,true,none,ab (.c (.int .i64 (.lit 0)))⟩])
 (ae (ae (al [⟨some 5,false,none,ab (.t 0)⟩,
 ⟨some 6,false,none,cO (.t 5)⟩,
 ⟨some 7,true,none,bF .eql (.t 6) (.c (.int .i64 (.lit 0)))⟩])
 (aO (.t 7) (ae (al [⟨some 4,true,none,ab (.c (.int .i64 (.lit 0)))⟩])
 bg) aM))
 (ae (al [⟨some 8,false,none,ab (.t 0)⟩,
 ⟨some 9,false,none,ab (.t 1)⟩,
 ⟨some 10,false,none,ab (.t 0)⟩,
 ⟨some 11,false,none,cO (.t 10)⟩,
 ⟨some 12,false,none,ar (.c (.func (.func 8) [] [])) [(.t 9),(.t 11)]⟩,
 ⟨some 13,false,none,bw 1 (.t 8) (.t 12)⟩,
 ⟨some 14,false,none,au (.t 13)⟩,
 ⟨some 4,true,none,ab (.t 14)⟩])
 bg))),[.t 4]⟩
noncomputable def Tryd.kp37:List Nat:=[0,1,2,4,5,6,7,14,15,16,17,18,51]
noncomputable def Tryd.cf37:CF:=⟨2,(ae (al [⟨some 2,true,none,cT 69 (.t 0)⟩,
 ⟨some 4,true,none,ab (.c (.bool (.lit false)))⟩])
 (ae (ae (al [⟨some 8,false,none,ab (.t 1)⟩,
 ⟨some 9,false,none,cO (.t 8)⟩,
 ⟨some 10,false,none,aa 0 (.t 2)⟩,
 ⟨some 11,false,none,aa 22 (.t 10)⟩,
 ⟨some 12,false,none,au (.t 11)⟩,
 ⟨some 13,false,none,cO (.t 12)⟩,
 ⟨some 14,true,none,bF .neq (.t 9) (.t 13)⟩])
 (aO (.t 14) (ae (al [⟨some 4,true,none,ab (.c (.bool (.lit false)))⟩])
 bg) aM))
 (ae (ae (al [⟨some 15,true,none,ab (.t 1)⟩,
 ⟨some 16,true,none,cO (.t 15)⟩,
 ⟨some 17,true,none,ab (.c (.int .i64 (.lit 0)))⟩])
 (aL 0 (eP (ae (al [⟨some 18,true,none,bF .lss (.t 17) (.t 16)⟩])
 (ae (aO (.t 18) aM (dE 0))
 (ae (aL 1 (ae (al [⟨some 19,false,none,ab (.t 17)⟩,
 ⟨some 20,false,none,bw 2 (.t 15) (.t 17)⟩,
 ⟨some 21,false,none,ac 2 (.t 20)⟩,
 ⟨some 6,true,none,ay 76 [(.int .i64 (.lit 0)),(.int .i64 (.lit 0))]⟩,
 ⟨some 5,true,none,ab (.t 19)⟩,
 ⟨none,false,none,aj 2 (.t 6) (.t 21)⟩])
 (ae (al [⟨some 22,false,none,aa 0 (.t 2)⟩,
 ⟨some 23,false,none,aa 22 (.t 22)⟩,
 ⟨some 24,false,none,au (.t 23)⟩,
 ⟨some 25,false,none,ab (.t 5)⟩,
 ⟨some 26,false,none,bw 4 (.t 24) (.t 25)⟩,
 ⟨some 27,false,none,aa 3 (.t 26)⟩,
 ⟨some 28,false,none,au (.t 27)⟩,
 ⟨some 7,true,none,ab (.t 28)⟩])
 (ae (al [⟨some 29,false,none,aa 0 (.t 6)⟩,
 ⟨some 30,false,none,au (.t 29)⟩,
 ⟨some 31,false,none,bF .lss (.t 30) (.c (.int .i64 (.lit 0)))⟩,
 ⟨some 32,false,none,ab (.t 31)⟩,
 ⟨some 33,false,some (32,false),aa 0 (.t 6)⟩,
 ⟨some 34,false,some (32,false),au (.t 33)⟩,
 ⟨some 35,false,some (32,false),ab (.t 7)⟩,
 ⟨some 36,false,some (32,false),bF .gtr (.t 34) (.t 35)⟩,
 ⟨some 37,false,none,aR (.t 32) (.c (.bool (.lit true))) (.t 36)⟩,
 ⟨some 38,false,none,ab (.t 37)⟩,
 ⟨some 39,false,some (38,false),aa 1 (.t 6)⟩,
 ⟨some 40,false,some (38,false),au (.t 39)⟩,
 ⟨some 41,false,some (38,false),bF .lss (.t 40) (.c (.int .i64 (.lit 0)))⟩,
 ⟨some 42,false,none,aR (.t 38) (.c (.bool (.lit true))) (.t 41)⟩,
 ⟨some 43,false,none,ab (.t 42)⟩,
 ⟨some 44,false,some (43,false),aa 1 (.t 6)⟩,
 ⟨some 45,false,some (43,false),au (.t 44)⟩,
 ⟨some 46,false,some (43,false),ab (.t 7)⟩,
 ⟨some 47,false,some (43,false),aa 0 (.t 6)⟩,
 ⟨some 48,false,some (43,false),au (.t 47)⟩,
 ⟨some 49,false,some (43,false),aF .sub (.t 46) (.t 48)⟩,
 ⟨some 50,false,some (43,false),bF .gtr (.t 45) (.t 49)⟩,
 ⟨some 51,true,none,aR (.t 43) (.c (.bool (.lit true))) (.t 50)⟩])
 (aO (.t 51) (ae (al [⟨some 4,true,none,ab (.c (.bool (.lit false)))⟩])
 bg) aM)))))
 (al [⟨some 52,false,none,aF .add (.t 17) (.c (.int .i64 (.lit 1)))⟩,
 ⟨some 17,true,none,ab (.t 52)⟩])))))))
 (ae (al [⟨some 4,true,none,ab (.c (.bool (.lit true)))⟩])
 bg)))),[.t 4]⟩
noncomputable def Tryd.ra38017:C:=(al [⟨some 8,true,none,ay 105 [(.int .i64 (.lit 0)),(.int .i64 (.lit 0)),(.int .i64 (.lit 0)),(.int .i64 (.lit 0)),(.int .i64 (.lit 0)),(.int .i64 (.lit 0)),(.int .i64 (.lit 0))]⟩,
 ⟨none,false,none,aj 7 (.t 8) (.t 17)⟩])
noncomputable def Tryd.rb38017:C:=(aL 1 (ae (al [⟨some 18,false,none,ac 39 (.t 2)⟩,
 ⟨some 19,false,none,ac 7 (.t 8)⟩,
 ⟨some 20,true,none,ar (.c (.func (.func 57) [] [])) [(.t 18),(.t 19)]⟩])
 (aO (.t 20) (ae (al [⟨some 21,false,none,aa 2 (.t 8)⟩,
 ⟨some 22,false,none,aa 0 (.t 21)⟩,
 ⟨some 23,false,none,au (.t 22)⟩,
 ⟨some 24,false,none,aF .sub (.t 23) (.c (.int .i64 (.lit 1)))⟩,
 ⟨none,false,none,aj 1 (.t 4) (.t 24)⟩,
 ⟨none,false,none,aj 1 (.t 5) (.c (.int .i64 (.lit 0)))⟩])
 bg) aM)))
noncomputable def Tryd.kp38:List Nat:=[0,1,2,4,5,6,8,16,17,20]
noncomputable def Tryd.cf38:CF:=⟨2,(ae (al [⟨some 2,true,none,cT 69 (.t 0)⟩,
 ⟨some 4,true,none,ay 3 [(.int .i64 (.lit 0))]⟩,
 ⟨some 5,true,none,ay 35 [(.int .i64 (.lit 0))]⟩])
 (ae (al [⟨some 10,false,none,ar (.c (.func (.func 50) [] [])) []⟩,
 ⟨some 9,false,none,ab (.t 10)⟩,
 ⟨some 11,false,none,ao 0 (.t 9)⟩,
 ⟨some 12,false,none,ao 1 (.t 9)⟩,
 ⟨some 6,true,none,ay 95 [.nilFunc,.nilFunc]⟩,
 ⟨some 7,false,none,ay 95 [.nilFunc,.nilFunc]⟩,
 ⟨none,false,none,aj 2 (.t 6) (.t 11)⟩,
 ⟨none,false,none,aj 2 (.t 7) (.t 12)⟩])
 (ae (ae (al [⟨some 13,false,none,ac 39 (.t 2)⟩,
 ⟨some 14,false,none,ab (.t 1)⟩,
 ⟨some 15,false,none,ac 2 (.t 6)⟩,
 ⟨some 16,true,none,ar (.c (.func (.func 56) [] [])) [(.t 13),(.t 14),(.t 15)]⟩])
 (aL 0 (cRange (.t 16) [17] 38017)))
 (ae (al [⟨none,false,none,aj 1 (.t 4) (.c (.int .i64 (.lit 0)))⟩,
 ⟨none,false,none,aj 1 (.t 5) (.c (.int .i64 (.lit 4)))⟩])
 bg)))),[.cell 4 false 1,.cell 5 false 1]⟩
noncomputable def Tryd.kp39:List Nat:=[0,1,2,4,5]
noncomputable def Tryd.cf39:CF:=⟨2,(ae (al [⟨some 2,true,none,cT 23 (.t 0)⟩,
 ⟨some 4,true,none,ay 23 [(.int .i64 (.lit 0)),(.int .i64 (.lit 0))]⟩])
 (ae (ae (al [⟨some 5,true,none,ab (.t 1)⟩])
 (aO (.t 5) (ae (al [⟨some 6,false,none,aa 1 (.t 2)⟩,
 ⟨some 7,false,none,au (.t 6)⟩,
 ⟨some 8,false,none,aa 1 (.t 2)⟩,
 ⟨some 9,false,none,au (.t 8)⟩,
 ⟨some 10,false,none,ar (.c (.func (.func 20) [] [])) [(.t 7),(.t 9)]⟩,
 ⟨none,false,none,aj 2 (.t 4) (.t 10)⟩])
 bg) aM))
 (ae (al [⟨some 11,false,none,aa 0 (.t 2)⟩,
 ⟨some 12,false,none,au (.t 11)⟩,
 ⟨some 13,false,none,aa 0 (.t 2)⟩,
 ⟨some 14,false,none,au (.t 13)⟩,
 ⟨some 15,false,none,ar (.c (.func (.func 20) [] [])) [(.t 12),(.t 14)]⟩,
 ⟨none,false,none,aj 2 (.t 4) (.t 15)⟩])
 bg))),[.cell 4 true 2]⟩
noncomputable def Tryd.kp40:List Nat:=[0,1,2,4]
noncomputable def Tryd.cf40:CF:=⟨2,(ae (al [⟨some 2,true,none,cT 69 (.t 0)⟩,
 ⟨some 4,true,none,ab (.c (.bool (.lit false)))⟩])
 (ae (al [⟨some 5,false,none,ab (.t 1)⟩,
 ⟨some 6,false,none,bF .geq (.t 5) (.c (.int .i64 (.lit 0)))⟩,
 ⟨some 7,false,none,ab (.t 6)⟩,
 ⟨some 8,false,some (7,true),ab (.t 1)⟩,
 ⟨some 9,false,some (7,true),aa 0 (.t 2)⟩,
 ⟨some 10,false,some (7,true),aa 22 (.t 9)⟩,
 ⟨some 11,false,some (7,true),au (.t 10)⟩,
 ⟨some 12,false,some (7,true),cO (.t 11)⟩,
 ⟨some 13,false,some (7,true),bF .lss (.t 8) (.t 12)⟩,
 ⟨some 14,false,none,aR (.t 7) (.t 13) (.c (.bool (.lit false)))⟩,
 ⟨some 4,true,none,ab (.t 14)⟩])
 bg)),[.t 4]⟩
noncomputable def Tryd.ra41021:C:=(al [⟨some 11,true,none,ay 105 [(.int .i64 (.lit 0)),(.int .i64 (.lit 0)),(.int .i64 (.lit 0)),(.int .i64 (.lit 0)),(.int .i64 (.lit 0)),(.int .i64 (.lit 0)),(.int .i64 (.lit 0))]⟩,
 ⟨none,false,none,aj 7 (.t 11) (.t 21)⟩])
noncomputable def Tryd.rb41021:C:=(aL 1 (ae (ae (al [⟨some 22,false,none,ac 7 (.t 11)⟩,
 ⟨some 23,true,none,ar (.c (.func (.func 58) [] [])) [(.t 22)]⟩])
 (aO (.t 23) (ae (al [⟨some 24,false,none,aK [(.int .i64 (.lit 0)),(.int .i64 (.lit 0))] []⟩,
 ⟨some 25,false,none,aK [(.int .i64 (.lit 0)),(.int .i64 (.lit 0))] []⟩,
 ⟨none,false,none,aj 2 (.t 4) (.t 24)⟩,
 ⟨none,false,none,aj 2 (.t 5) (.t 25)⟩,
 ⟨none,false,none,aj 1 (.t 6) (.c (.int .i64 (.lit 42)))⟩])
 bg) aM))
 (al [⟨some 26,false,none,aa 2 (.t 11)⟩,
 ⟨some 27,false,none,aa 1 (.t 26)⟩,
 ⟨some 28,false,none,ac 2 (.t 27)⟩,
 ⟨none,false,none,aj 2 (.t 9) (.t 28)⟩])))
noncomputable def Tryd.ra41033:C:=(al [⟨some 12,true,none,ay 105 [(.int .i64 (.lit 0)),(.int .i64 (.lit 0)),(.int .i64 (.lit 0)),(.int .i64 (.lit 0)),(.int .i64 (.lit 0)),(.int .i64 (.lit 0)),(.int .i64 (.lit 0))]⟩,
 ⟨none,false,none,aj 7 (.t 12) (.t 33)⟩])
noncomputable def Tryd.rb41033:C:=(aL 3 (al [⟨some 34,false,none,aa 2 (.t 12)⟩,
 ⟨some 35,false,none,aa 1 (.t 34)⟩,
 ⟨some 36,false,none,ac 2 (.t 35)⟩,
 ⟨none,false,none,aj 2 (.t 10) (.t 36)⟩]))
noncomputable def Tryd.kp41:List Nat:=[0,1,2,4,5,6,7,8,9,10,11,12,20,21,23,32,33]
noncomputable def Tryd.cf41:CF:=⟨2,(ae (al [⟨some 2,true,none,cT 69 (.t 0)⟩,
 ⟨some 4,true,none,ay 23 [(.int .i64 (.lit 0)),(.int .i64 (.lit 0))]⟩,
 ⟨some 5,true,none,ay 23 [(.int .i64 (.lit 0)),(.int .i64 (.lit 0))]⟩,
 ⟨some 6,true,none,ay 35 [(.int .i64 (.lit 0))]⟩])
 (ae (al [⟨some 14,false,none,ar (.c (.func (.func 50) [] [])) []⟩,
 ⟨some 13,false,none,ab (.t 14)⟩,
 ⟨some 15,false,none,ao 0 (.t 13)⟩,
 ⟨some 16,false,none,ao 1 (.t 13)⟩,
 ⟨some 7,true,none,ay 95 [.nilFunc,.nilFunc]⟩,
 ⟨some 8,true,none,ay 95 [.nilFunc,.nilFunc]⟩,
 ⟨none,false,none,aj 2 (.t 7) (.t 15)⟩,
 ⟨none,false,none,aj 2 (.t 8) (.t 16)⟩])
 (ae (al [⟨some 9,true,none,ay 100 [(.int .i64 (.lit 0)),(.int .i64 (.lit 0))]⟩,
 ⟨some 10,true,none,ay 100 [(.int .i64 (.lit 0)),(.int .i64 (.lit 0))]⟩])
 (ae (ae (al [⟨some 17,false,none,ac 39 (.t 2)⟩,
 ⟨some 18,false,none,ab (.t 1)⟩,
 ⟨some 19,false,none,ac 2 (.t 7)⟩,
 ⟨some 20,true,none,ar (.c (.func (.func 56) [] [])) [(.t 17),(.t 18),(.t 19)]⟩])
 (aL 0 (cRange (.t 20) [21] 41021)))
 (ae (ae (al [⟨some 29,false,none,ac 39 (.t 2)⟩,
 ⟨some 30,false,none,ab (.t 1)⟩,
 ⟨some 31,false,none,ac 2 (.t 8)⟩,
 ⟨some 32,true,none,ar (.c (.func (.func 56) [] [])) [(.t 29),(.t 30),(.t 31)]⟩])
 (aL 2 (cRange (.t 32) [33] 41033)))
 (ae (dOps 0 [⟨⟨some 37,false,none,bB 1 2 (.t 9) (.c (.int .i64 (.lit 0)))⟩,[9],false,0,0,none,[]⟩,
 ⟨⟨some 38,false,none,au (.t 37)⟩,[37],false,0,0,none,[]⟩,
 ⟨⟨some 39,false,none,bB 1 2 (.t 10) (.c (.int .i64 (.lit 0)))⟩,[10],false,0,0,none,[]⟩,
 ⟨⟨some 40,false,none,au (.t 39)⟩,[39],false,0,0,none,[]⟩,
 ⟨⟨some 41,false,none,aK [(.int .i64 (.lit 0)),(.int .i64 (.lit 0))] [(0,1,(.t 38)),(1,1,(.t 40))]⟩,[38,40],false,0,0,none,[]⟩,
 ⟨⟨some 42,false,none,bB 1 2 (.t 9) (.c (.int .i64 (.lit 1)))⟩,[9],false,0,1,none,[]⟩,
 ⟨⟨some 43,false,none,au (.t 42)⟩,[42],false,0,1,none,[]⟩,
 ⟨⟨some 44,false,none,bB 1 2 (.t 10) (.c (.int .i64 (.lit 1)))⟩,[10],false,0,1,none,[]⟩,
 ⟨⟨some 45,false,none,au (.t 44)⟩,[44],false,0,1,none,[]⟩,
 ⟨⟨some 46,false,none,aK [(.int .i64 (.lit 0)),(.int .i64 (.lit 0))] [(0,1,(.t 43)),(1,1,(.t 45))]⟩,[43,45],false,0,1,none,[]⟩,
 ⟨⟨none,false,none,aj 2 (.t 4) (.t 41)⟩,[4,41],true,0,0,none,[]⟩,
 ⟨⟨none,false,none,aj 2 (.t 5) (.t 46)⟩,[5,46],true,1,0,none,[]⟩,
 ⟨⟨none,false,none,aj 1 (.t 6) (.c (.int .i64 (.lit 0)))⟩,[6],true,2,0,none,[]⟩])
 bg)))))),[.cell 4 true 2,.cell 5 true 2,.cell 6 false 1]⟩
noncomputable def Tryd.kp42:List Nat:=[0,1,2,3,4,18,19,20,28]
noncomputable def Tryd.cf42:CF:=⟨1,(ae (al [⟨some 1,true,none,cT 27 (.t 0)⟩,
 ⟨some 2,true,none,ab (.c (.bool (.lit false)))⟩])
 (ae (ae (al [⟨some 5,false,none,aa 4 (.t 1)⟩,
 ⟨some 6,false,none,au (.t 5)⟩,
 ⟨some 7,false,none,aa 5 (.t 1)⟩,
 ⟨some 8,false,none,au (.t 7)⟩,
 ⟨some 9,false,none,aa 6 (.t 1)⟩,
 ⟨some 10,false,none,au (.t 9)⟩,
 ⟨some 11,false,none,aa 7 (.t 1)⟩,
 ⟨some 12,false,none,au (.t 11)⟩,
 ⟨some 13,false,none,aa 21 (.t 1)⟩,
 ⟨some 14,false,none,au (.t 13)⟩,
 ⟨some 15,false,none,aa 22 (.t 1)⟩,
 ⟨some 16,false,none,au (.t 15)⟩,
 ⟨some 17,false,none,cO (.t 16)⟩,
 ⟨some 18,true,none,aK [(.int .i64 (.lit 0)),(.int .i64 (.lit 0)),(.int .i64 (.lit 0)),(.int .i64 (.lit 0)),(.int .i64 (.lit 0)),(.int .i64 (.lit 0))] [(0,1,(.t 6)),(1,1,(.t 8)),(2,1,(.t 10)),(3,1,(.t 12)),(4,1,(.t 14)),(5,1,(.t 17))]⟩,
 ⟨some 19,true,none,ab (.c (.int .i64 (.lit 0)))⟩])
 (aL 0 (eP (ae (al [⟨some 20,true,none,bF .lss (.t 19) (.c (.int .i64 (.lit 6)))⟩])
 (ae (aO (.t 20) aM (dE 0))
 (ae (aL 1 (ae (al [⟨some 21,false,none,ab (.t 19)⟩,
 ⟨some 22,false,none,iIndex false 1 6 (.t 18) (.t 19)⟩,
 ⟨some 3,true,none,ab (.t 21)⟩,
 ⟨some 4,true,none,ab (.t 22)⟩])
 (ae (al [⟨some 23,false,none,ab (.t 4)⟩,
 ⟨some 24,false,none,ab (.t 3)⟩,
 ⟨some 25,false,none,bB 2 6 (.c (.ptr 0 0)) (.t 24)⟩,
 ⟨some 26,false,none,ac 2 (.t 25)⟩,
 ⟨some 27,false,none,ar (.c (.func (.func 43) [] [])) [(.t 23),(.t 26)]⟩,
 ⟨some 28,true,none,iNot (.t 27)⟩])
 (aO (.t 28) (ae (al [⟨some 2,true,none,ab (.c (.bool (.lit false)))⟩])
 bg) aM))))
 (al [⟨some 29,false,none,aF .add (.t 19) (.c (.int .i64 (.lit 1)))⟩,
 ⟨some 19,true,none,ab (.t 29)⟩])))))))
 (ae (al [⟨some 30,false,none,aa 4 (.t 1)⟩,
 ⟨some 31,false,none,au (.t 30)⟩,
 ⟨some 32,false,none,aa 0 (.t 1)⟩,
 ⟨some 33,false,none,ac 2 (.t 32)⟩,
 ⟨some 34,false,none,cN 23 [(.int .i64 (.lit 0)),(.int .i64 (.lit 0))] 1 [(0,2,(.t 33))]⟩,
 ⟨some 35,false,none,ar (.c (.func (.func 59) [] [])) [(.t 31),(.t 34)]⟩,
 ⟨some 36,false,none,ab (.t 35)⟩,
 ⟨some 37,false,some (36,true),aa 5 (.t 1)⟩,
 ⟨some 38,false,some (36,true),au (.t 37)⟩,
 ⟨some 39,false,some (36,true),aa 2 (.t 1)⟩,
 ⟨some 40,false,some (36,true),ac 2 (.t 39)⟩,
 ⟨some 41,false,some (36,true),cN 23 [(.int .i64 (.lit 0)),(.int .i64 (.lit 0))] 1 [(0,2,(.t 40))]⟩,
 ⟨some 42,false,some (36,true),ar (.c (.func (.func 59) [] [])) [(.t 38),(.t 41)]⟩,
 ⟨some 43,false,none,aR (.t 36) (.t 42) (.c (.bool (.lit false)))⟩,
 ⟨some 44,false,none,ab (.t 43)⟩,
 ⟨some 45,false,some (44,true),aa 8 (.t 1)⟩,
 ⟨some 46,false,some (44,true),iSliceA 2 2 (.t 45) none none none⟩,
 ⟨some 47,false,some (44,true),ar (.c (.func (.func 59) [] [])) [(.c (.int .i64 (.lit 3))),(.t 46)]⟩,
 ⟨some 48,false,none,aR (.t 44) (.t 47) (.c (.bool (.lit false)))⟩,
 ⟨some 49,false,none,ab (.t 48)⟩,
 ⟨some 50,false,some (49,true),aa 12 (.t 1)⟩,
 ⟨some 51,false,some (49,true),iSliceA 2 2 (.t 50) none none none⟩,
 ⟨some 52,false,some (49,true),ar (.c (.func (.func 59) [] [])) [(.c (.int .i64 (.lit 3))),(.t 51)]⟩,
 ⟨some 53,false,none,aR (.t 49) (.t 52) (.c (.bool (.lit false)))⟩,
 ⟨some 54,false,none,ab (.t 53)⟩,
 ⟨some 55,false,some (54,true),ac 23 (.t 1)⟩,
 ⟨some 56,false,some (54,true),ar (.c (.func (.func 60) [] [])) [(.t 55)]⟩,
 ⟨some 57,false,none,aR (.t 54) (.t 56) (.c (.bool (.lit false)))⟩,
 ⟨some 58,false,none,ab (.t 57)⟩,
 ⟨some 59,false,some (58,true),aa 20 (.t 1)⟩,
 ⟨some 60,false,some (58,true),au (.t 59)⟩,
 ⟨some 61,false,some (58,true),aa 5 (.t 1)⟩,
 ⟨some 62,false,some (58,true),au (.t 61)⟩,
 ⟨some 63,false,some (58,true),aK [(.int .i64 (.lit 0)),(.int .i64 (.lit 0))] [(0,1,(.c (.int .i64 (.lit 0)))),(1,1,(.t 62))]⟩,
 ⟨some 64,false,some (58,true),ar (.c (.func (.func 43) [] [])) [(.t 60),(.t 63)]⟩,
 ⟨some 65,false,none,aR (.t 58) (.t 64) (.c (.bool (.lit false)))⟩,
 ⟨some 66,false,none,ab (.t 65)⟩,
 ⟨some 67,false,some (66,true),aa 22 (.t 1)⟩,
 ⟨some 68,false,some (66,true),au (.t 67)⟩,
 ⟨some 69,false,some (66,true),ar (.c (.func (.func 61) [] [])) [(.t 68)]⟩,
 ⟨some 70,false,none,aR (.t 66) (.t 69) (.c (.bool (.lit false)))⟩,
 ⟨some 2,true,none,ab (.t 70)⟩])
 bg))),[.t 2]⟩
noncomputable def Tryd.kp43:List Nat:=[0,1,3,4]
noncomputable def Tryd.cf43:CF:=⟨2,(ae (al [⟨some 3,true,none,cT 23 (.t 1)⟩,
 ⟨some 4,true,none,ab (.c (.bool (.lit false)))⟩])
 (ae (al [⟨some 5,false,none,aa 0 (.t 3)⟩,
 ⟨some 6,false,none,au (.t 5)⟩,
 ⟨some 7,false,none,ab (.t 0)⟩,
 ⟨some 8,false,none,bF .leq (.t 6) (.t 7)⟩,
 ⟨some 9,false,none,ab (.t 8)⟩,
 ⟨some 10,false,some (9,true),ab (.t 0)⟩,
 ⟨some 11,false,some (9,true),aa 1 (.t 3)⟩,
 ⟨some 12,false,some (9,true),au (.t 11)⟩,
 ⟨some 13,false,some (9,true),bF .leq (.t 10) (.t 12)⟩,
 ⟨some 14,false,none,aR (.t 9) (.t 13) (.c (.bool (.lit false)))⟩,
 ⟨some 4,true,none,ab (.t 14)⟩])
 bg)),[.t 4]⟩
noncomputable def Tryd.kp44:List Nat:=[0,1,2,4,9]
noncomputable def Tryd.cf44:CF:=⟨2,(ae (al [⟨some 2,true,none,cT 69 (.t 0)⟩,
 ⟨some 4,true,none,ay 23 [(.int .i64 (.lit 0)),(.int .i64 (.lit 0))]⟩])
 (ae (ae (al [⟨some 5,false,none,ab (.t 1)⟩,
 ⟨some 6,false,none,aa 0 (.t 2)⟩,
 ⟨some 7,false,none,aa 20 (.t 6)⟩,
 ⟨some 8,false,none,au (.t 7)⟩,
 ⟨some 9,true,none,bF .lss (.t 5) (.t 8)⟩])
 (aO (.t 9) (ae (al [⟨some 10,false,none,aa 0 (.t 2)⟩,
 ⟨some 11,false,none,aa 18 (.t 10)⟩,
 ⟨some 12,false,none,ac 2 (.t 11)⟩,
 ⟨none,false,none,aj 2 (.t 4) (.t 12)⟩])
 bg) aM))
 (ae (al [⟨some 13,false,none,aa 0 (.t 2)⟩,
 ⟨some 14,false,none,aa 16 (.t 13)⟩,
 ⟨some 15,false,none,ac 2 (.t 14)⟩,
 ⟨none,false,none,aj 2 (.t 4) (.t 15)⟩])
 bg))),[.cell 4 true 2]⟩
noncomputable def Tryd.kp45:List Nat:=[0,1,2,3,8]
noncomputable def Tryd.cf45:CF:=⟨4,(ae (al [⟨some 8,true,none,ay 33 [(.int .i64 (.lit 0)),(.int .i64 (.lit 0)),(.bool (.lit false)),(.int .i64 (.lit 0))]⟩])
 (ae (al [⟨some 9,false,none,ab (.t 0)⟩,
 ⟨some 10,false,none,ab (.t 1)⟩,
 ⟨some 11,false,none,ar (.c (.func (.func 20) [] [])) [(.t 9),(.t 10)]⟩,
 ⟨some 12,false,none,ab (.t 2)⟩,
 ⟨some 13,false,none,ab (.t 3)⟩,
 ⟨some 14,false,none,aK [(.int .i64 (.lit 0)),(.int .i64 (.lit 0)),(.bool (.lit false)),(.int .i64 (.lit 0))] [(0,2,(.t 11)),(2,1,(.t 12)),(3,1,(.t 13))]⟩,
 ⟨none,false,none,aj 4 (.t 8) (.t 14)⟩])
 bg)),[.cell 8 true 4]⟩
noncomputable def Tryd.kp46:List Nat:=[0,1,2,4,5]
noncomputable def Tryd.cf46:CF:=⟨2,(ae (al [⟨some 2,true,none,cT 91 (.t 0)⟩,
 ⟨some 4,true,none,ab (.c (.bool (.lit false)))⟩])
 (ae (al [⟨some 6,false,none,aa 0 (.t 2)⟩,
 ⟨some 7,false,none,aa 0 (.t 6)⟩,
 ⟨some 8,false,none,ac 23 (.t 7)⟩,
 ⟨some 5,true,none,ay 27 [(.int .i64 (.lit 0)),(.int .i64 (.lit 0)),(.int .i64 (.lit 0)),(.int .i64 (.lit 0)),(.int .i64 (.lit 0)),(.int .i64 (.lit 0)),(.int .i64 (.lit 0)),(.int .i64 (.lit 0)),(.int .i64 (.lit 0)),(.int .i64 (.lit 0)),(.int .i64 (.lit 0)),(.int .i64 (.lit 0)),(.int .i64 (.lit 0)),(.int .i64 (.lit 0)),(.int .i64 (.lit 0)),(.int .i64 (.lit 0)),(.int .i64 (.lit 0)),(.int .i64 (.lit 0)),(.int .i64 (.lit 0)),(.int .i64 (.lit 0)),(.int .i64 (.lit 0)),(.int .i64 (.lit 0)),.nilslice]⟩,
 ⟨none,false,none,aj 23 (.t 5) (.t 8)⟩])
 (ae (al [⟨some 9,false,none,aa 22 (.t 5)⟩,
 ⟨some 10,false,none,au (.t 9)⟩,
 ⟨some 11,false,none,ar (.c (.func (.func 62) [] [])) [(.t 10)]⟩,
 ⟨some 12,false,none,aa 22 (.t 5)⟩,
 ⟨none,false,none,aj 1 (.t 12) (.t 11)⟩])
 (ae (al [⟨some 13,false,none,aa 22 (.t 5)⟩,
 ⟨some 14,false,none,au (.t 13)⟩,
 ⟨some 15,false,none,aa 39 (.t 2)⟩,
 ⟨some 16,false,none,au (.t 15)⟩,
 ⟨some 17,false,none,bw 4 (.t 14) (.t 16)⟩,
 ⟨some 18,false,none,aa 0 (.t 17)⟩,
 ⟨some 19,false,none,aa 1 (.t 18)⟩,
 ⟨some 20,false,none,au (.t 19)⟩,
 ⟨some 21,false,none,ab (.t 1)⟩,
 ⟨some 22,false,none,aF .add (.t 20) (.t 21)⟩,
 ⟨some 23,false,none,bw 4 (.t 14) (.t 16)⟩,
 ⟨some 24,false,none,aa 0 (.t 23)⟩,
 ⟨some 25,false,none,aa 1 (.t 24)⟩,
 ⟨none,false,none,aj 1 (.t 25) (.t 22)⟩])
 (ae (al [⟨some 26,false,none,ac 23 (.t 5)⟩,
 ⟨some 27,false,none,ar (.c (.func (.func 49) [] [])) [(.t 26)]⟩,
 ⟨some 28,false,none,ar (.c (.func (.func 54) [] [])) [(.t 27)]⟩,
 ⟨some 4,true,none,ab (.t 28)⟩])
 bg))))),[.t 4]⟩
noncomputable def Tryd.kp47:List Nat:=[0,1,4,5,6,7,11,21]
noncomputable def Tryd.cf47:CF:=⟨2,(ae (al [⟨some 4,true,none,ab (.c (.int .i64 (.lit 0)))⟩])
 (ae (al [⟨some 8,false,none,ab (.t 0)⟩,
 ⟨some 5,true,none,ab (.c (.int .i64 (.lit 0)))⟩,
 ⟨some 6,true,none,ab (.t 8)⟩])
 (ae (aL 0 (eP (ae (ae (al [⟨some 9,false,none,ab (.t 5)⟩,
 ⟨some 10,false,none,ab (.t 6)⟩,
 ⟨some 11,true,none,bF .lss (.t 9) (.t 10)⟩])
 (aO (.t 11) aM (dE 0)))
 (aL 1 (ae (al [⟨some 12,false,none,ab (.t 5)⟩,
 ⟨some 13,false,none,ab (.t 6)⟩,
 ⟨some 14,false,none,aF .add (.t 12) (.t 13)⟩,
 ⟨some 15,false,none,iConv .u64 (.t 14)⟩,
 ⟨some 16,false,none,iShift .shr (.t 15) (.c (.int .u64 (.lit 1)))⟩,
 ⟨some 17,false,none,iConv .i64 (.t 16)⟩,
 ⟨some 7,true,none,ab (.t 17)⟩])
 (ae (al [⟨some 18,false,none,ab (.t 1)⟩,
 ⟨some 19,false,none,ab (.t 7)⟩,
 ⟨some 20,false,none,ar (.t 18) [(.t 19)]⟩,
 ⟨some 21,true,none,iNot (.t 20)⟩])
 (aO (.t 21) (al [⟨some 22,false,none,ab (.t 7)⟩,
 ⟨some 23,false,none,aF .add (.t 22) (.c (.int .i64 (.lit 1)))⟩,
 ⟨some 5,true,none,ab (.t 23)⟩]) (al [⟨some 24,false,none,ab (.t 7)⟩,
 ⟨some 6,true,none,ab (.t 24)⟩]))))))))
 (ae (al [⟨some 25,false,none,ab (.t 5)⟩,
 ⟨some 4,true,none,ab (.t 25)⟩])
 bg)))),[.t 4]⟩
noncomputable def Tryd.kp48:List Nat:=[0,1,2,4,5]
noncomputable def Tryd.cf48:CF:=⟨2,(ae (al [⟨some 2,true,none,cT 69 (.t 0)⟩,
 ⟨some 4,true,none,ab (.c (.bool (.lit false)))⟩])
 (ae (al [⟨some 6,false,none,aa 0 (.t 2)⟩,
 ⟨some 7,false,none,ac 23 (.t 6)⟩,
 ⟨some 5,true,none,ay 27 [(.int .i64 (.lit 0)),(.int .i64 (.lit 0)),(.int .i64 (.lit 0)),(.int .i64 (.lit 0)),(.int .i64 (.lit 0)),(.int .i64 (.lit 0)),(.int .i64 (.lit 0)),(.int .i64 (.lit 0)),(.int .i64 (.lit 0)),(.int .i64 (.lit 0)),(.int .i64 (.lit 0)),(.int .i64 (.lit 0)),(.int .i64 (.lit 0)),(.int .i64 (.lit 0)),(.int .i64 (.lit 0)),(.int .i64 (.lit 0)),(.int .i64 (.lit 0)),(.int .i64 (.lit 0)),(.int .i64 (.lit 0)),(.int .i64 (.lit 0)),(.int .i64 (.lit 0)),(.int .i64 (.lit 0)),.nilslice]⟩,
 ⟨none,false,none,aj 23 (.t 5) (.t 7)⟩])
 (ae (al [⟨some 8,false,none,ab (.t 1)⟩,
 ⟨some 9,false,none,ab (.t 1)⟩,
 ⟨some 10,false,none,aK [(.int .i64 (.lit 0)),(.int .i64 (.lit 0))] [(0,1,(.t 8)),(1,1,(.t 9))]⟩,
 ⟨some 11,false,none,aa 0 (.t 5)⟩,
 ⟨none,false,none,aj 2 (.t 11) (.t 10)⟩])
 (ae (al [⟨some 12,false,none,ac 23 (.t 5)⟩,
 ⟨some 13,false,none,ar (.c (.func (.func 49) [] [])) [(.t 12)]⟩,
 ⟨some 14,false,none,ar (.c (.func (.func 54) [] [])) [(.t 13)]⟩,
 ⟨some 4,true,none,ab (.t 14)⟩])
 bg)))),[.t 4]⟩
noncomputable def Tryd.kp49:List Nat:=[0,1,2,3,4,5,8,9,10]
noncomputable def Tryd.cf49:CF:=⟨1,(ae (al [⟨some 1,true,none,cT 27 (.t 0)⟩,
 ⟨some 2,true,none,ay 69 [(.int .i64 (.lit 0)),(.int .i64 (.lit 0)),(.int .i64 (.lit 0)),(.int .i64 (.lit 0)),(.int .i64 (.lit 0)),(.int .i64 (.lit 0)),(.int .i64 (.lit 0)),(.int .i64 (.lit 0)),(.int .i64 (.lit 0)),(.int .i64 (.lit 0)),(.int .i64 (.lit 0)),(.int .i64 (.lit 0)),(.int .i64 (.lit 0)),(.int .i64 (.lit 0)),(.int .i64 (.lit 0)),(.int .i64 (.lit 0)),(.int .i64 (.lit 0)),(.int .i64 (.lit 0)),(.int .i64 (.lit 0)),(.int .i64 (.lit 0)),(.int .i64 (.lit 0)),(.int .i64 (.lit 0)),.nilslice,(.int .i64 (.lit 0)),(.int .i64 (.lit 0)),(.int .i64 (.lit 0)),(.int .i64 (.lit 0)),(.int .i64 (.lit 0)),(.int .i64 (.lit 0)),(.int .i64 (.lit 0)),(.int .i64 (.lit 0)),(.int .i64 (.lit 0)),(.int .i64 (.lit 0)),(.int .i64 (.lit 0)),(.int .i64 (.lit 0)),(.int .i64 (.lit 0)),(.int .i64 (.lit 0)),(.int .i64 (.lit 0)),(.int .i64 (.lit 0))]⟩])
 (ae (al [⟨some 6,false,none,ac 23 (.t 1)⟩,
 ⟨some 7,false,none,aK [(.int .i64 (.lit 0)),(.int .i64 (.lit 0)),(.int .i64 (.lit 0)),(.int .i64 (.lit 0)),(.int .i64 (.lit 0)),(.int .i64 (.lit 0)),(.int .i64 (.lit 0)),(.int .i64 (.lit 0)),(.int .i64 (.lit 0)),(.int .i64 (.lit 0)),(.int .i64 (.lit 0)),(.int .i64 (.lit 0)),(.int .i64 (.lit 0)),(.int .i64 (.lit 0)),(.int .i64 (.lit 0)),(.int .i64 (.lit 0)),(.int .i64 (.lit 0)),(.int .i64 (.lit 0)),(.int .i64 (.lit 0)),(.int .i64 (.lit 0)),(.int .i64 (.lit 0)),(.int .i64 (.lit 0)),.nilslice,(.int .i64 (.lit 0)),(.int .i64 (.lit 0)),(.int .i64 (.lit 0)),(.int .i64 (.lit 0)),(.int .i64 (.lit 0)),(.int .i64 (.lit 0)),(.int .i64 (.lit 0)),(.int .i64 (.lit 0)),(.int .i64 (.lit 0)),(.int .i64 (.lit 0)),(.int .i64 (.lit 0)),(.int .i64 (.lit 0)),(.int .i64 (.lit 0)),(.int .i64 (.lit 0)),(.int .i64 (.lit 0)),(.int .i64 (.lit 0))] [(0,23,(.t 6))]⟩,
 ⟨some 3,true,none,ay 69 [(.int .i64 (.lit 0)),(.int .i64 (.lit 0)),(.int .i64 (.lit 0)),(.int .i64 (.lit 0)),(.int .i64 (.lit 0)),(.int .i64 (.lit 0)),(.int .i64 (.lit 0)),(.int .i64 (.lit 0)),(.int .i64 (.lit 0)),(.int .i64 (.lit 0)),(.int .i64 (.lit 0)),(.int .i64 (.lit 0)),(.int .i64 (.lit 0)),(.int .i64 (.lit 0)),(.int .i64 (.lit 0)),(.int .i64 (.lit 0)),(.int .i64 (.lit 0)),(.int .i64 (.lit 0)),(.int .i64 (.lit 0)),(.int .i64 (.lit 0)),(.int .i64 (.lit 0)),(.int .i64 (.lit 0)),.nilslice,(.int .i64 (.lit 0)),(.int .i64 (.lit 0)),(.int .i64 (.lit 0)),(.int .i64 (.lit 0)),(.int .i64 (.lit 0)),(.int .i64 (.lit 0)),(.int .i64 (.lit 0)),(.int .i64 (.lit 0)),(.int .i64 (.lit 0)),(.int .i64 (.lit 0)),(.int .i64 (.lit 0)),(.int .i64 (.lit 0)),(.int .i64 (.lit 0)),(.int .i64 (.lit 0)),(.int .i64 (.lit 0)),(.int .i64 (.lit 0))]⟩,
 ⟨none,false,none,aj 39 (.t 3) (.t 7)⟩])
 (ae (ae (al [⟨some 8,true,none,aK [.nilFunc,.nilFunc] [(0,1,(.c (.func (.func 63) [] []))),(1,1,(.c (.func (.func 64) [] [])))]⟩,
 ⟨some 9,true,none,ab (.c (.int .i64 (.lit 0)))⟩])
 (aL 0 (eP (ae (al [⟨some 10,true,none,bF .lss (.t 9) (.c (.int .i64 (.lit 2)))⟩])
 (ae (aO (.t 10) aM (dE 0))
 (ae (aL 1 (ae (al [⟨some 11,false,none,ab (.t 9)⟩,
 ⟨some 12,false,none,iIndex false 1 2 (.t 8) (.t 9)⟩,
 ⟨some 4,true,none,ab (.t 11)⟩,
 ⟨some 5,true,none,ab (.t 12)⟩])
 (al [⟨some 13,false,none,ab (.t 4)⟩,
 ⟨some 14,false,none,ab (.t 5)⟩,
 ⟨some 15,false,none,ac 39 (.t 3)⟩,
 ⟨some 16,false,none,ar (.t 14) [(.t 15)]⟩,
 ⟨some 17,false,none,aa 23 (.t 3)⟩,
 ⟨some 18,false,none,bB 8 2 (.t 17) (.t 13)⟩,
 ⟨none,false,none,aj 8 (.t 18) (.t 16)⟩])))
 (al [⟨some 19,false,none,aF .add (.t 9) (.c (.int .i64 (.lit 1)))⟩,
 ⟨some 9,true,none,ab (.t 19)⟩])))))))
 (ae (al [⟨some 20,false,none,ac 39 (.t 3)⟩,
 ⟨none,false,none,aj 39 (.t 2) (.t 20)⟩])
 bg)))),[.cell 2 true 39]⟩
noncomputable def Tryd.kp50:List Nat:=[0,1]
noncomputable def Tryd.cf50:CF:=⟨0,(ae (al [⟨some 0,true,none,ay 95 [.nilFunc,.nilFunc]⟩,
 ⟨some 1,true,none,ay 95 [.nilFunc,.nilFunc]⟩])
 (ae (al [⟨some 2,false,none,aK [.nilFunc,.nilFunc] [(0,1,(.c (.func (.func 65) [] []))),(1,1,(.c (.func (.func 66) [] [])))]⟩,
 ⟨some 3,false,none,aK [.nilFunc,.nilFunc] [(0,1,(.c (.func (.func 66) [] []))),(1,1,(.c (.func (.func 65) [] [])))]⟩,
 ⟨none,false,none,aj 2 (.t 0) (.t 2)⟩,
 ⟨none,false,none,aj 2 (.t 1) (.t 3)⟩])
 bg)),[.cell 0 true 2,.cell 1 true 2]⟩
noncomputable def Tryd.kp51:List Nat:=[0,1,2,3,5,6]
noncomputable def Tryd.cf51:CF:=⟨1,(ae (al [⟨some 1,true,none,cT 69 (.t 0)⟩,
 ⟨some 2,true,none,ab (.c .nilmap)⟩])
 (ae (al [⟨some 8,false,none,ar (.c (.func (.func 50) [] [])) []⟩,
 ⟨some 7,false,none,ab (.t 8)⟩,
 ⟨some 9,false,none,ao 0 (.t 7)⟩,
 ⟨some 10,false,none,ao 1 (.t 7)⟩,
 ⟨some 3,true,none,ay 95 [.nilFunc,.nilFunc]⟩,
 ⟨some 4,false,none,ay 95 [.nilFunc,.nilFunc]⟩,
 ⟨none,false,none,aj 2 (.t 3) (.t 9)⟩,
 ⟨none,false,none,aj 2 (.t 4) (.t 10)⟩])
 (ae (al [⟨some 11,false,none,iMkmap⟩,
 ⟨some 5,true,none,ay 98 [.nilmap]⟩,
 ⟨none,false,none,aj 1 (.t 5) (.t 11)⟩])
 (ae (al [⟨some 6,true,none,ay 125 [.nilFunc]⟩])
 (ae (al [⟨some 12,false,none,iFunc (.func 67) [] [(.t 5),(.t 1),(.t 3),(.t 6)]⟩,
 ⟨none,false,none,aj 1 (.t 6) (.t 12)⟩])
 (ae (dOps 0 [⟨⟨some 13,false,none,au (.t 6)⟩,[6],false,0,1,none,[]⟩,
 ⟨⟨some 14,false,none,ac 39 (.t 1)⟩,[1],false,0,0,none,[]⟩,
 ⟨⟨some 15,false,none,ac 2 (.t 3)⟩,[3],false,0,0,none,[]⟩,
 ⟨⟨some 16,false,none,ar (.c (.func (.func 52) [] [])) [(.t 14),(.t 15)]⟩,[14,15],true,0,0,none,[]⟩,
 ⟨⟨some 17,false,none,ar (.t 13) [(.t 16)]⟩,[13,16],true,1,0,none,[]⟩])
 (ae (al [⟨some 18,false,none,au (.t 5)⟩,
 ⟨some 2,true,none,ab (.t 18)⟩])
 bg))))))),[.t 2]⟩
noncomputable def Tryd.kp52:List Nat:=[0,1,2,3,4,5,6,7,9,10,11]
noncomputable def Tryd.cf52:CF:=⟨2,(ae (al [⟨some 2,true,none,cT 69 (.t 0)⟩,
 ⟨some 3,true,none,cT 95 (.t 1)⟩,
 ⟨some 4,true,none,ay 102 [(.int .i64 (.lit 0)),(.int .i64 (.lit 0)),(.int .i64 (.lit 0))]⟩])
 (ae (al [⟨some 5,true,none,ay 102 [(.int .i64 (.lit 0)),(.int .i64 (.lit 0)),(.int .i64 (.lit 0))]⟩])
 (ae (ae (al [⟨some 8,false,none,aa 23 (.t 2)⟩,
 ⟨some 9,true,none,ac 16 (.t 8)⟩,
 ⟨some 10,true,none,ab (.c (.int .i64 (.lit 0)))⟩])
 (aL 0 (eP (ae (al [⟨some 11,true,none,bF .lss (.t 10) (.c (.int .i64 (.lit 2)))⟩])
 (ae (aO (.t 11) aM (dE 0))
 (ae (aL 1 (ae (al [⟨some 12,false,none,ab (.t 10)⟩,
 ⟨some 13,false,none,iIndex true 8 2 (.t 9) (.t 10)⟩,
 ⟨some 7,true,none,ay 66 [(.int .i64 (.lit 0)),(.int .i64 (.lit 0)),(.int .i64 (.lit 0)),(.int .i64 (.lit 0)),(.int .i64 (.lit 0)),(.int .i64 (.lit 0)),(.int .i64 (.lit 0)),(.int .i64 (.lit 0))]⟩,
 ⟨some 6,true,none,ab (.t 12)⟩,
 ⟨none,false,none,aj 8 (.t 7) (.t 13)⟩])
 (al [⟨some 14,false,none,ab (.t 6)⟩,
 ⟨some 15,false,none,aa 0 (.t 3)⟩,
 ⟨some 16,false,none,au (.t 15)⟩,
 ⟨some 17,false,none,aa 0 (.t 7)⟩,
 ⟨some 18,false,none,ac 2 (.t 17)⟩,
 ⟨some 19,false,none,ar (.t 16) [(.t 18)]⟩,
 ⟨some 20,false,none,aa 1 (.t 5)⟩,
 ⟨some 21,false,none,bB 1 2 (.t 20) (.t 14)⟩,
 ⟨none,false,none,aj 1 (.t 21) (.t 19)⟩])))
 (al [⟨some 22,false,none,aF .add (.t 10) (.c (.int .i64 (.lit 1)))⟩,
 ⟨some 10,true,none,ab (.t 22)⟩])))))))
 (ae (al [⟨some 23,false,none,ac 3 (.t 5)⟩,
 ⟨none,false,none,aj 3 (.t 4) (.t 23)⟩])
 bg)))),[.cell 4 true 3]⟩
noncomputable def Tryd.kp53:List Nat:=[0,1,3]
noncomputable def Tryd.cf53:CF:=⟨2,(ae (al [⟨some 3,true,none,ab (.c (.bool (.lit false)))⟩])
 (ae (al [⟨some 4,false,none,au (.t 1)⟩,
 ⟨some 5,false,none,ab (.t 0)⟩,
 ⟨some 6,false,none,ar (.t 4) [(.t 5)]⟩,
 ⟨some 7,false,none,iNot (.t 6)⟩,
 ⟨some 3,true,none,ab (.t 7)⟩])
 bg)),[.t 3]⟩
noncomputable def Tryd.kp54:List Nat:=[0,1,2,3]
noncomputable def Tryd.cf54:CF:=⟨1,(ae (al [⟨some 1,true,none,cT 69 (.t 0)⟩,
 ⟨some 2,true,none,ab (.c (.bool (.lit false)))⟩])
 (ae (al [⟨some 6,false,none,ar (.c (.func (.func 50) [] [])) []⟩,
 ⟨some 5,false,none,ab (.t 6)⟩,
 ⟨some 7,false,none,ao 0 (.t 5)⟩,
 ⟨some 8,false,none,ao 1 (.t 5)⟩,
 ⟨some 3,true,none,ay 95 [.nilFunc,.nilFunc]⟩,
 ⟨some 4,false,none,ay 95 [.nilFunc,.nilFunc]⟩,
 ⟨none,false,none,aj 2 (.t 3) (.t 7)⟩,
 ⟨none,false,none,aj 2 (.t 4) (.t 8)⟩])
 (ae (dOps 0 [⟨⟨some 9,false,none,ac 39 (.t 1)⟩,[1],false,0,0,none,[]⟩,
 ⟨⟨some 10,false,none,ar (.c (.func (.func 51) [] [])) [(.t 9)]⟩,[9],true,0,0,none,[]⟩,
 ⟨⟨some 11,false,none,ac 39 (.t 1)⟩,[1],false,0,1,none,[]⟩,
 ⟨⟨some 12,false,none,ac 2 (.t 3)⟩,[3],false,0,1,none,[]⟩,
 ⟨⟨some 13,false,none,ar (.c (.func (.func 52) [] [])) [(.t 11),(.t 12)]⟩,[11,12],true,1,0,none,[]⟩,
 ⟨⟨some 14,false,none,dX (.agg [(.bool (.lit false)),(.int .i64 (.lit 0)),(.int .i64 (.lit 0)),(.int .i64 (.lit 0)),(.int .i64 (.lit 0)),(.int .i64 (.lit 0)),(.int .i64 (.lit 0)),(.int .i64 (.lit 0)),(.int .i64 (.lit 0))]) true 3 [(0,.int),(1,.int),(2,.int)] false (.t 10) (.t 13)⟩,[10,13],false,2,2,none,[]⟩,
 ⟨⟨some 15,false,none,iField false 0 1 (.t 14)⟩,[14],false,2,2,none,[]⟩,
 ⟨⟨some 2,true,none,ab (.t 15)⟩,[15],false,2,2,none,[]⟩])
 bg))),[.t 2]⟩
noncomputable def Tryd.kp55:List Nat:=[0,1,2,4,6]
noncomputable def Tryd.cf55:CF:=⟨2,(ae (al [⟨some 2,true,none,cT 23 (.t 0)⟩,
 ⟨some 4,true,none,ab (.c (.int .i64 (.lit 0)))⟩])
 (ae (ae (al [⟨some 5,false,none,ac 2 (.t 2)⟩,
 ⟨some 6,true,none,ar (.c (.func (.func 69) [] [])) [(.t 5)]⟩])
 (aO (.t 6) (ae (al [⟨some 7,false,none,aa 0 (.t 2)⟩,
 ⟨some 8,false,none,au (.t 7)⟩,
 ⟨some 4,true,none,ab (.t 8)⟩])
 bg) aM))
 (ae (dOps 0 [⟨⟨some 9,false,none,aa 0 (.t 2)⟩,[2],false,0,1,none,[]⟩,
 ⟨⟨some 10,false,none,au (.t 9)⟩,[9],false,0,1,none,[]⟩,
 ⟨⟨some 11,false,none,ab (.t 1)⟩,[1],false,0,0,none,[]⟩,
 ⟨⟨some 12,false,none,aa 1 (.t 2)⟩,[2],false,0,0,none,[]⟩,
 ⟨⟨some 13,false,none,au (.t 12)⟩,[12],false,0,0,none,[]⟩,
 ⟨⟨some 14,false,none,aa 0 (.t 2)⟩,[2],false,0,0,none,[]⟩,
 ⟨⟨some 15,false,none,au (.t 14)⟩,[14],false,0,0,none,[]⟩,
 ⟨⟨some 16,false,none,aF .sub (.t 13) (.t 15)⟩,[13,15],false,0,0,none,[]⟩,
 ⟨⟨some 17,false,none,aF .add (.t 16) (.c (.int .i64 (.lit 1)))⟩,[16],false,0,0,none,[]⟩,
 ⟨⟨some 18,false,none,ar (.c (.func (.func 8) [] [])) [(.t 11),(.t 17)]⟩,[11,17],true,0,0,none,[]⟩,
 ⟨⟨some 19,false,none,aF .add (.t 10) (.t 18)⟩,[10,18],false,1,1,none,[]⟩,
 ⟨⟨some 4,true,none,ab (.t 19)⟩,[19],false,1,1,none,[]⟩])
 bg))),[.t 4]⟩
noncomputable def Tryd.kp56:List Nat:=[0,1,2,3,4,5,6]
noncomputable def Tryd.cf56:CF:=⟨3,(ae (al [⟨some 3,true,none,cT 69 (.t 0)⟩,
 ⟨some 4,true,none,cT 34 (.t 1)⟩,
 ⟨some 5,true,none,cT 95 (.t 2)⟩,
 ⟨some 6,true,none,ab (.c .nilFunc)⟩])
 (ae (al [⟨some 7,false,none,iFunc (.func 70) [] [(.t 3),(.t 5),(.t 4)]⟩,
 ⟨some 6,true,none,ab (.t 7)⟩])
 bg)),[.t 6]⟩
noncomputable def Tryd.kp57:List Nat:=[0,1,2,3,4,5,7]
noncomputable def Tryd.cf57:CF:=⟨2,(ae (al [⟨some 2,true,none,cT 69 (.t 0)⟩,
 ⟨some 3,true,none,cT 105 (.t 1)⟩,
 ⟨some 4,true,none,ab (.c (.bool (.lit false)))⟩])
 (ae (ae (al [⟨some 6,false,none,ac 7 (.t 3)⟩,
 ⟨some 7,true,none,ar (.c (.func (.func 58) [] [])) [(.t 6)]⟩])
 (aO (.t 7) (ae (al [⟨some 4,true,none,ab (.c (.bool (.lit true)))⟩])
 bg) aM))
 (ae (al [⟨some 8,false,none,aa 0 (.t 2)⟩,
 ⟨some 9,false,none,aa 22 (.t 8)⟩,
 ⟨some 10,false,none,au (.t 9)⟩,
 ⟨some 11,false,none,aa 2 (.t 3)⟩,
 ⟨some 12,false,none,aa 0 (.t 11)⟩,
 ⟨some 13,false,none,au (.t 12)⟩,
 ⟨some 14,false,none,aF .sub (.t 13) (.c (.int .i64 (.lit 1)))⟩,
 ⟨some 15,false,none,bw 4 (.t 10) (.t 14)⟩,
 ⟨some 16,false,none,ac 4 (.t 15)⟩,
 ⟨some 5,true,none,ay 33 [(.int .i64 (.lit 0)),(.int .i64 (.lit 0)),(.bool (.lit false)),(.int .i64 (.lit 0))]⟩,
 ⟨none,false,none,aj 4 (.t 5) (.t 16)⟩])
 (ae (dOps 0 [⟨⟨some 17,false,none,aa 2 (.t 5)⟩,[5],false,0,0,none,[]⟩,
 ⟨⟨some 18,false,none,au (.t 17)⟩,[17],false,0,0,none,[]⟩,
 ⟨⟨some 19,false,none,ab (.t 18)⟩,[18],false,0,0,none,[]⟩,
 ⟨⟨some 20,false,some (19,true),ac 39 (.t 2)⟩,[19,2],false,0,0,none,[]⟩,
 ⟨⟨some 21,false,some (19,true),aa 2 (.t 3)⟩,[19,3],false,0,0,none,[]⟩,
 ⟨⟨some 22,false,some (19,true),aa 1 (.t 21)⟩,[19,21],false,0,0,none,[]⟩,
 ⟨⟨some 23,false,some (19,true),bB 1 2 (.t 22) (.c (.int .i64 (.lit 1)))⟩,[19,22],false,0,0,none,[]⟩,
 ⟨⟨some 24,false,some (19,true),au (.t 23)⟩,[19,23],false,0,0,none,[]⟩,
 ⟨⟨some 25,false,some (19,true),ar (.c (.func (.func 44) [] [])) [(.t 20),(.t 24)]⟩,[19,20,24],true,0,0,none,[]⟩,
 ⟨⟨some 26,false,some (19,true),iField false 0 1 (.t 25)⟩,[19,25],false,1,1,none,[]⟩,
 ⟨⟨some 27,false,some (19,true),aa 0 (.t 2)⟩,[19,2],false,0,1,none,[]⟩,
 ⟨⟨some 28,false,some (19,true),aa 21 (.t 27)⟩,[19,27],false,0,1,none,[]⟩,
 ⟨⟨some 29,false,some (19,true),au (.t 28)⟩,[19,28],false,0,1,none,[]⟩,
 ⟨⟨some 30,false,some (19,true),bF .lss (.t 26) (.t 29)⟩,[19,26,29],false,1,1,none,[]⟩,
 ⟨⟨some 31,false,none,aR (.t 19) (.t 30) (.c (.bool (.lit false)))⟩,[19,30],false,1,1,none,[]⟩,
 ⟨⟨some 4,true,none,ab (.t 31)⟩,[31],false,1,1,none,[]⟩])
 bg)))),[.t 4]⟩
noncomputable def Tryd.kp58:List Nat:=[0,1,2]
noncomputable def Tryd.cf58:CF:=⟨1,(ae (al [⟨some 1,true,none,cT 105 (.t 0)⟩,
 ⟨some 2,true,none,ab (.c (.bool (.lit false)))⟩])
 (ae (al [⟨some 3,false,none,aa 5 (.t 1)⟩,
 ⟨some 4,false,none,ac 2 (.t 3)⟩,
 ⟨some 5,false,none,aK [(.int .i64 (.lit 0)),(.int .i64 (.lit 0))] []⟩,
 ⟨some 6,false,none,iEq true true 2 [(0,.int),(1,.int)] (.t 4) (.t 5)⟩,
 ⟨some 2,true,none,ab (.t 6)⟩])
 bg)),[.t 2]⟩
noncomputable def Tryd.kp59:List Nat:=[0,1,4,6,7,8,9,10,17]
noncomputable def Tryd.cf59:CF:=⟨2,(ae (al [⟨some 4,true,none,ab (.c (.bool (.lit false)))⟩])
 (ae (ae (al [⟨some 7,true,none,ab (.t 1)⟩,
 ⟨some 8,true,none,cO (.t 7)⟩,
 ⟨some 9,true,none,ab (.c (.int .i64 (.lit 0)))⟩])
 (aL 0 (eP (ae (al [⟨some 10,true,none,bF .lss (.t 9) (.t 8)⟩])
 (ae (aO (.t 10) aM (dE 0))
 (ae (aL 1 (ae (al [⟨some 11,false,none,bw 2 (.t 7) (.t 9)⟩,
 ⟨some 12,false,none,ac 2 (.t 11)⟩,
 ⟨some 6,true,none,ay 23 [(.int .i64 (.lit 0)),(.int .i64 (.lit 0))]⟩,
 ⟨none,false,none,aj 2 (.t 6) (.t 12)⟩])
 (ae (al [⟨some 13,false,none,ac 2 (.t 6)⟩,
 ⟨some 14,false,none,ab (.t 0)⟩,
 ⟨some 15,false,none,aK [(.int .i64 (.lit 0)),(.int .i64 (.lit 0))] [(0,1,(.c (.int .i64 (.lit 0)))),(1,1,(.t 14))]⟩,
 ⟨some 16,false,none,ar (.c (.func (.func 72) [] [])) [(.t 13),(.t 15)]⟩,
 ⟨some 17,true,none,iNot (.t 16)⟩])
 (aO (.t 17) (ae (al [⟨some 4,true,none,ab (.c (.bool (.lit false)))⟩])
 bg) aM))))
 (al [⟨some 18,false,none,aF .add (.t 9) (.c (.int .i64 (.lit 1)))⟩,
 ⟨some 9,true,none,ab (.t 18)⟩])))))))
 (ae (al [⟨some 4,true,none,ab (.c (.bool (.lit true)))⟩])
 bg))),[.t 4]⟩
noncomputable def Tryd.kp60:List Nat:=[0,1,2]
noncomputable def Tryd.cf60:CF:=⟨1,(ae (al [⟨some 1,true,none,cT 27 (.t 0)⟩,
 ⟨some 2,true,none,ab (.c (.bool (.lit false)))⟩])
 (ae (al [⟨some 3,false,none,aa 16 (.t 1)⟩,
 ⟨some 4,false,none,ac 2 (.t 3)⟩,
 ⟨some 5,false,none,aa 18 (.t 1)⟩,
 ⟨some 6,false,none,ac 2 (.t 5)⟩,
 ⟨some 7,false,none,cN 23 [(.int .i64 (.lit 0)),(.int .i64 (.lit 0))] 2 [(0,2,(.t 4)),(2,2,(.t 6))]⟩,
 ⟨some 8,false,none,ar (.c (.func (.func 59) [] [])) [(.c (.int .i64 (.lit 60))),(.t 7)]⟩,
 ⟨some 9,false,none,ab (.t 8)⟩,
 ⟨some 10,false,some (9,true),aa 18 (.t 1)⟩,
 ⟨some 11,false,some (9,true),aa 0 (.t 10)⟩,
 ⟨some 12,false,some (9,true),au (.t 11)⟩,
 ⟨some 13,false,some (9,true),aa 16 (.t 1)⟩,
 ⟨some 14,false,some (9,true),aa 0 (.t 13)⟩,
 ⟨some 15,false,some (9,true),au (.t 14)⟩,
 ⟨some 16,false,some (9,true),bF .leq (.t 12) (.t 15)⟩,
 ⟨some 17,false,none,aR (.t 9) (.t 16) (.c (.bool (.lit false)))⟩,
 ⟨some 18,false,none,ab (.t 17)⟩,
 ⟨some 19,false,some (18,true),aa 18 (.t 1)⟩,
 ⟨some 20,false,some (18,true),aa 1 (.t 19)⟩,
 ⟨some 21,false,some (18,true),au (.t 20)⟩,
 ⟨some 22,false,some (18,true),aa 16 (.t 1)⟩,
 ⟨some 23,false,some (18,true),aa 1 (.t 22)⟩,
 ⟨some 24,false,some (18,true),au (.t 23)⟩,
 ⟨some 25,false,some (18,true),bF .leq (.t 21) (.t 24)⟩,
 ⟨some 26,false,none,aR (.t 18) (.t 25) (.c (.bool (.lit false)))⟩,
 ⟨some 2,true,none,ab (.t 26)⟩])
 bg)),[.t 2]⟩
noncomputable def Tryd.kp61:List Nat:=[0,2,4,5,6,7,8,22]
noncomputable def Tryd.cf61:CF:=⟨1,(ae (al [⟨some 2,true,none,ab (.c (.bool (.lit false)))⟩])
 (ae (ae (al [⟨some 5,true,none,ab (.t 0)⟩,
 ⟨some 6,true,none,cO (.t 5)⟩,
 ⟨some 7,true,none,ab (.c (.int .i64 (.lit 0)))⟩])
 (aL 0 (eP (ae (al [⟨some 8,true,none,bF .lss (.t 7) (.t 6)⟩])
 (ae (aO (.t 8) aM (dE 0))
 (ae (aL 1 (ae (al [⟨some 9,false,none,bw 4 (.t 5) (.t 7)⟩,
 ⟨some 10,false,none,ac 4 (.t 9)⟩,
 ⟨some 4,true,none,ay 33 [(.int .i64 (.lit 0)),(.int .i64 (.lit 0)),(.bool (.lit false)),(.int .i64 (.lit 0))]⟩,
 ⟨none,false,none,aj 4 (.t 4) (.t 10)⟩])
 (ae (al [⟨some 11,false,none,aa 0 (.t 4)⟩,
 ⟨some 12,false,none,ac 2 (.t 11)⟩,
 ⟨some 13,false,none,aK [(.int .i64 (.lit 0)),(.int .i64 (.lit 0))] [(0,1,(.c (.int .i64 (.lit 1)))),(1,1,(.c (.int .i64 (.lit 60))))]⟩,
 ⟨some 14,false,none,ar (.c (.func (.func 72) [] [])) [(.t 12),(.t 13)]⟩,
 ⟨some 15,false,none,iNot (.t 14)⟩,
 ⟨some 16,false,none,ab (.t 15)⟩,
 ⟨some 17,false,some (16,false),aa 3 (.t 4)⟩,
 ⟨some 18,false,some (16,false),au (.t 17)⟩,
 ⟨some 19,false,some (16,false),aK [(.int .i64 (.lit 0)),(.int .i64 (.lit 0))] [(0,1,(.c (.int .i64 (.lit 0)))),(1,1,(.c (.int .i64 (.lit 5))))]⟩,
 ⟨some 20,false,some (16,false),ar (.c (.func (.func 43) [] [])) [(.t 18),(.t 19)]⟩,
 ⟨some 21,false,some (16,false),iNot (.t 20)⟩,
 ⟨some 22,true,none,aR (.t 16) (.c (.bool (.lit true))) (.t 21)⟩])
 (aO (.t 22) (ae (al [⟨some 2,true,none,ab (.c (.bool (.lit false)))⟩])
 bg) aM))))
 (al [⟨some 23,false,none,aF .add (.t 7) (.c (.int .i64 (.lit 1)))⟩,
 ⟨some 7,true,none,ab (.t 23)⟩])))))))
 (ae (al [⟨some 2,true,none,ab (.c (.bool (.lit true)))⟩])
 bg))),[.t 2]⟩
noncomputable def Tryd.kp62:List Nat:=[0,2,4]
noncomputable def Tryd.cf62:CF:=⟨1,(ae (al [⟨some 2,true,none,ab (.c .nilslice)⟩])
 (ae (ae (al [⟨some 3,false,none,ab (.t 0)⟩,
 ⟨some 4,true,none,iEq false false 1 [(0,.nilS)] (.t 3) (.c .nilslice)⟩])
 (aO (.t 4) (ae (al [⟨some 2,true,none,ab (.c .nilslice)⟩])
 bg) aM))
 (ae (al [⟨some 5,false,none,cN 33 [(.int .i64 (.lit 0)),(.int .i64 (.lit 0)),(.bool (.lit false)),(.int .i64 (.lit 0))] 0 []⟩,
 ⟨some 6,false,none,ab (.t 0)⟩,
 ⟨some 7,false,none,gj 33 4 32 (.t 5) (.t 6)⟩,
 ⟨some 2,true,none,ab (.t 7)⟩])
 bg))),[.t 2]⟩
noncomputable def Tryd.kp63:List Nat:=[0,1,2]
noncomputable def Tryd.cf63:CF:=⟨1,(ae (al [⟨some 1,true,none,cT 69 (.t 0)⟩,
 ⟨some 2,true,none,ay 66 [(.int .i64 (.lit 0)),(.int .i64 (.lit 0)),(.int .i64 (.lit 0)),(.int .i64 (.lit 0)),(.int .i64 (.lit 0)),(.int .i64 (.lit 0)),(.int .i64 (.lit 0)),(.int .i64 (.lit 0))]⟩])
 (ae (al [⟨some 3,false,none,aa 0 (.t 1)⟩,
 ⟨some 4,false,none,aa 0 (.t 3)⟩,
 ⟨some 5,false,none,ac 2 (.t 4)⟩,
 ⟨some 6,false,none,aa 0 (.t 1)⟩,
 ⟨some 7,false,none,aa 4 (.t 6)⟩,
 ⟨some 8,false,none,au (.t 7)⟩,
 ⟨some 9,false,none,aa 0 (.t 1)⟩,
 ⟨some 10,false,none,aa 6 (.t 9)⟩,
 ⟨some 11,false,none,au (.t 10)⟩,
 ⟨some 12,false,none,aa 0 (.t 1)⟩,
 ⟨some 13,false,none,aa 8 (.t 12)⟩,
 ⟨some 14,false,none,ac 4 (.t 13)⟩,
 ⟨some 15,false,none,aK [(.int .i64 (.lit 0)),(.int .i64 (.lit 0)),(.int .i64 (.lit 0)),(.int .i64 (.lit 0)),(.int .i64 (.lit 0)),(.int .i64 (.lit 0)),(.int .i64 (.lit 0)),(.int .i64 (.lit 0))] [(0,2,(.t 5)),(2,1,(.t 8)),(3,1,(.t 11)),(4,4,(.t 14))]⟩,
 ⟨none,false,none,aj 8 (.t 2) (.t 15)⟩])
 bg)),[.cell 2 true 8]⟩
noncomputable def Tryd.kp64:List Nat:=[0,1,2]
noncomputable def Tryd.cf64:CF:=⟨1,(ae (al [⟨some 1,true,none,cT 69 (.t 0)⟩,
 ⟨some 2,true,none,ay 66 [(.int .i64 (.lit 0)),(.int .i64 (.lit 0)),(.int .i64 (.lit 0)),(.int .i64 (.lit 0)),(.int .i64 (.lit 0)),(.int .i64 (.lit 0)),(.int .i64 (.lit 0)),(.int .i64 (.lit 0))]⟩])
 (ae (al [⟨some 3,false,none,aa 0 (.t 1)⟩,
 ⟨some 4,false,none,aa 2 (.t 3)⟩,
 ⟨some 5,false,none,ac 2 (.t 4)⟩,
 ⟨some 6,false,none,aa 0 (.t 1)⟩,
 ⟨some 7,false,none,aa 5 (.t 6)⟩,
 ⟨some 8,false,none,au (.t 7)⟩,
 ⟨some 9,false,none,aa 0 (.t 1)⟩,
 ⟨some 10,false,none,aa 7 (.t 9)⟩,
 ⟨some 11,false,none,au (.t 10)⟩,
 ⟨some 12,false,none,aa 0 (.t 1)⟩,
 ⟨some 13,false,none,aa 12 (.t 12)⟩,
 ⟨some 14,false,none,ac 4 (.t 13)⟩,
 ⟨some 15,false,none,aK [(.int .i64 (.lit 0)),(.int .i64 (.lit 0)),(.int .i64 (.lit 0)),(.int .i64 (.lit 0)),(.int .i64 (.lit 0)),(.int .i64 (.lit 0)),(.int .i64 (.lit 0)),(.int .i64 (.lit 0))] [(0,2,(.t 5)),(2,1,(.t 8)),(3,1,(.t 11)),(4,4,(.t 14))]⟩,
 ⟨none,false,none,aj 8 (.t 2) (.t 15)⟩])
 bg)),[.cell 2 true 8]⟩
noncomputable def Tryd.kp65:List Nat:=[0,1,2]
noncomputable def Tryd.cf65:CF:=⟨1,(ae (al [⟨some 1,true,none,cT 124 (.t 0)⟩,
 ⟨some 2,true,none,ab (.c (.int .i64 (.lit 0)))⟩])
 (ae (al [⟨some 3,false,none,aa 0 (.t 1)⟩,
 ⟨some 4,false,none,au (.t 3)⟩,
 ⟨some 2,true,none,ab (.t 4)⟩])
 bg)),[.t 2]⟩
noncomputable def Tryd.kp66:List Nat:=[0,1,2]
noncomputable def Tryd.cf66:CF:=⟨1,(ae (al [⟨some 1,true,none,cT 124 (.t 0)⟩,
 ⟨some 2,true,none,ab (.c (.int .i64 (.lit 0)))⟩])
 (ae (al [⟨some 3,false,none,aa 1 (.t 1)⟩,
 ⟨some 4,false,none,au (.t 3)⟩,
 ⟨some 2,true,none,ab (.t 4)⟩])
 bg)),[.t 2]⟩
noncomputable def Tryd.ra67040:C:=(al [⟨some 11,true,none,ay 105 [(.int .i64 (.lit 0)),(.int .i64 (.lit 0)),(.int .i64 (.lit 0)),(.int .i64 (.lit 0)),(.int .i64 (.lit 0)),(.int .i64 (.lit 0)),(.int .i64 (.lit 0))]⟩,
 ⟨none,false,none,aj 7 (.t 11) (.t 40)⟩])
noncomputable def Tryd.rb67040:C:=(aL 1 (ae (ae (al [⟨some 41,false,none,ac 39 (.t 2)⟩,
 ⟨some 42,false,none,ac 7 (.t 11)⟩,
 ⟨some 43,false,none,ar (.c (.func (.func 57) [] [])) [(.t 41),(.t 42)]⟩,
 ⟨some 44,false,none,ab (.t 43)⟩,
 ⟨some 45,false,some (44,false),aa 2 (.t 11)⟩,
 ⟨some 46,false,some (44,false),ac 3 (.t 45)⟩,
 ⟨some 47,false,some (44,false),ac 3 (.t 10)⟩,
 ⟨some 48,false,some (44,false),iEq false true 3 [(0,.int),(1,.int),(2,.int)] (.t 46) (.t 47)⟩,
 ⟨some 49,true,none,aR (.t 44) (.c (.bool (.lit true))) (.t 48)⟩])
 (aO (.t 49) (dE 1) aM))
 (ae (al [⟨some 50,false,none,aa 2 (.t 11)⟩,
 ⟨some 51,false,none,ac 3 (.t 50)⟩,
 ⟨none,false,none,aj 3 (.t 10) (.t 51)⟩])
 (ae (al [⟨some 52,false,none,au (.t 4)⟩,
 ⟨some 53,false,none,aa 2 (.t 11)⟩,
 ⟨some 54,false,none,ac 3 (.t 53)⟩,
 ⟨some 55,false,none,ar (.t 52) [(.t 54)]⟩,
 ⟨some 12,true,none,ay 107 [(.bool (.lit false)),(.int .i64 (.lit 0)),(.int .i64 (.lit 0)),(.int .i64 (.lit 0)),(.int .i64 (.lit 0)),(.int .i64 (.lit 0)),(.int .i64 (.lit 0)),(.int .i64 (.lit 0)),(.int .i64 (.lit 0))]⟩,
 ⟨none,false,none,aj 9 (.t 12) (.t 55)⟩])
 (ae (al [⟨some 56,false,none,aa 0 (.t 11)⟩,
 ⟨some 57,false,none,aa 0 (.t 56)⟩,
 ⟨some 58,false,none,au (.t 57)⟩,
 ⟨some 59,false,none,aa 0 (.t 11)⟩,
 ⟨some 60,false,none,aa 1 (.t 59)⟩,
 ⟨some 61,false,none,au (.t 60)⟩,
 ⟨some 62,false,none,aF .add (.t 58) (.t 61)⟩,
 ⟨some 63,false,none,aa 1 (.t 12)⟩,
 ⟨some 64,false,none,au (.t 63)⟩,
 ⟨some 65,false,none,aF .add (.t 62) (.t 64)⟩,
 ⟨some 13,true,none,ab (.t 65)⟩])
 (ae (ae (al [⟨some 66,false,none,aa 0 (.t 12)⟩,
 ⟨some 67,false,none,au (.t 66)⟩,
 ⟨some 68,false,none,iNot (.t 67)⟩,
 ⟨some 69,false,none,ab (.t 68)⟩,
 ⟨some 70,false,some (69,false),aa 0 (.t 9)⟩,
 ⟨some 71,false,some (69,false),au (.t 70)⟩,
 ⟨some 72,false,some (69,false),ab (.t 71)⟩,
 ⟨some 73,false,some (72,true),aa 1 (.t 9)⟩,
 ⟨some 74,false,some (72,true),au (.t 73)⟩,
 ⟨some 75,false,some (72,true),ab (.t 13)⟩,
 ⟨some 76,false,some (72,true),bF .leq (.t 74) (.t 75)⟩,
 ⟨some 77,false,some (69,false),aR (.t 72) (.t 76) (.c (.bool (.lit false)))⟩,
 ⟨some 78,true,none,aR (.t 69) (.c (.bool (.lit true))) (.t 77)⟩])
 (aO (.t 78) (dE 1) aM))
 (al [⟨some 79,false,none,ab (.t 13)⟩,
 ⟨some 80,false,none,ac 7 (.t 11)⟩,
 ⟨some 81,false,none,aK [(.bool (.lit false)),(.int .i64 (.lit 0)),(.int .i64 (.lit 0)),(.int .i64 (.lit 0)),(.int .i64 (.lit 0)),(.int .i64 (.lit 0)),(.int .i64 (.lit 0)),(.int .i64 (.lit 0)),(.int .i64 (.lit 0))] [(0,1,(.c (.bool (.lit true)))),(1,1,(.t 79)),(2,7,(.t 80))]⟩,
 ⟨none,false,none,aj 9 (.t 9) (.t 81)⟩])))))))
noncomputable def Tryd.kp67:List Nat:=[0,1,2,3,4,5,6,7,8,9,10,11,12,13,20,28,39,40,49,78]
noncomputable def Tryd.cf67:CF:=⟨5,(ae (al [⟨some 5,true,none,cT 102 (.t 0)⟩,
 ⟨some 6,true,none,ay 107 [(.bool (.lit false)),(.int .i64 (.lit 0)),(.int .i64 (.lit 0)),(.int .i64 (.lit 0)),(.int .i64 (.lit 0)),(.int .i64 (.lit 0)),(.int .i64 (.lit 0)),(.int .i64 (.lit 0)),(.int .i64 (.lit 0))]⟩])
 (ae (ae (al [⟨some 15,false,none,au (.t 1)⟩,
 ⟨some 16,false,none,ac 3 (.t 5)⟩,
 ⟨some 17,false,none,dX (.agg [(.bool (.lit false)),(.int .i64 (.lit 0)),(.int .i64 (.lit 0)),(.int .i64 (.lit 0)),(.int .i64 (.lit 0)),(.int .i64 (.lit 0)),(.int .i64 (.lit 0)),(.int .i64 (.lit 0)),(.int .i64 (.lit 0))]) true 3 [(0,.int),(1,.int),(2,.int)] true (.t 15) (.t 16)⟩,
 ⟨some 14,false,none,ab (.t 17)⟩,
 ⟨some 18,false,none,ao 0 (.t 14)⟩,
 ⟨some 19,false,none,ao 1 (.t 14)⟩,
 ⟨some 7,true,none,ay 107 [(.bool (.lit false)),(.int .i64 (.lit 0)),(.int .i64 (.lit 0)),(.int .i64 (.lit 0)),(.int .i64 (.lit 0)),(.int .i64 (.lit 0)),(.int .i64 (.lit 0)),(.int .i64 (.lit 0)),(.int .i64 (.lit 0))]⟩,
 ⟨none,false,none,aj 9 (.t 7) (.t 18)⟩,
 ⟨some 8,true,none,ab (.t 19)⟩])
 (ae (al [⟨some 20,true,none,ab (.t 8)⟩])
 (aO (.t 20) (ae (al [⟨some 21,false,none,ac 9 (.t 7)⟩,
 ⟨none,false,none,aj 9 (.t 6) (.t 21)⟩])
 bg) aM)))
 (ae (ae (al [⟨some 22,false,none,aa 0 (.t 5)⟩,
 ⟨some 23,false,none,au (.t 22)⟩,
 ⟨some 24,false,none,aa 0 (.t 2)⟩,
 ⟨some 25,false,none,aa 22 (.t 24)⟩,
 ⟨some 26,false,none,au (.t 25)⟩,
 ⟨some 27,false,none,cO (.t 26)⟩,
 ⟨some 28,true,none,bF .eql (.t 23) (.t 27)⟩])
 (aO (.t 28) (ae (al [⟨some 29,false,none,au (.t 1)⟩,
 ⟨some 30,false,none,ac 3 (.t 5)⟩,
 ⟨some 31,false,none,aK [(.bool (.lit false)),(.int .i64 (.lit 0)),(.int .i64 (.lit 0)),(.int .i64 (.lit 0)),(.int .i64 (.lit 0)),(.int .i64 (.lit 0)),(.int .i64 (.lit 0)),(.int .i64 (.lit 0)),(.int .i64 (.lit 0))] [(0,1,(.c (.bool (.lit true))))]⟩,
 ⟨none,false,none,iMapset true 3 [(0,.int),(1,.int),(2,.int)] (.t 29) (.t 30) (.t 31)⟩])
 (ae (al [⟨some 32,false,none,au (.t 1)⟩,
 ⟨some 33,false,none,ac 3 (.t 5)⟩,
 ⟨some 34,false,none,dX (.agg [(.bool (.lit false)),(.int .i64 (.lit 0)),(.int .i64 (.lit 0)),(.int .i64 (.lit 0)),(.int .i64 (.lit 0)),(.int .i64 (.lit 0)),(.int .i64 (.lit 0)),(.int .i64 (.lit 0)),(.int .i64 (.lit 0))]) true 3 [(0,.int),(1,.int),(2,.int)] false (.t 32) (.t 33)⟩,
 ⟨none,false,none,aj 9 (.t 6) (.t 34)⟩])
 bg)) aM))
 (ae (al [⟨some 9,true,none,ay 107 [(.bool (.lit false)),(.int .i64 (.lit 0)),(.int .i64 (.lit 0)),(.int .i64 (.lit 0)),(.int .i64 (.lit 0)),(.int .i64 (.lit 0)),(.int .i64 (.lit 0)),(.int .i64 (.lit 0)),(.int .i64 (.lit 0))]⟩])
 (ae (al [⟨some 35,false,none,ac 3 (.t 5)⟩,
 ⟨some 10,true,none,ay 102 [(.int .i64 (.lit 0)),(.int .i64 (.lit 0)),(.int .i64 (.lit 0))]⟩,
 ⟨none,false,none,aj 3 (.t 10) (.t 35)⟩])
 (ae aM
 (ae (ae (al [⟨some 36,false,none,ac 39 (.t 2)⟩,
 ⟨some 37,false,none,ac 3 (.t 5)⟩,
 ⟨some 38,false,none,ac 2 (.t 3)⟩,
 ⟨some 39,true,none,ar (.c (.func (.func 68) [] [])) [(.t 36),(.t 37),(.t 38)]⟩])
 (aL 0 (cRange (.t 39) [40] 67040)))
 (ae (al [⟨some 82,false,none,au (.t 1)⟩,
 ⟨some 83,false,none,ac 3 (.t 5)⟩,
 ⟨some 84,false,none,ac 9 (.t 9)⟩,
 ⟨none,false,none,iMapset true 3 [(0,.int),(1,.int),(2,.int)] (.t 82) (.t 83) (.t 84)⟩])
 (ae (al [⟨some 85,false,none,ac 9 (.t 9)⟩,
 ⟨none,false,none,aj 9 (.t 6) (.t 85)⟩])
 bg))))))))),[.cell 6 true 9]⟩
noncomputable def Tryd.kp68:List Nat:=[0,1,2,3,4,5,6]
noncomputable def Tryd.cf68:CF:=⟨3,(ae (al [⟨some 3,true,none,cT 69 (.t 0)⟩,
 ⟨some 4,true,none,cT 102 (.t 1)⟩,
 ⟨some 5,true,none,cT 95 (.t 2)⟩,
 ⟨some 6,true,none,ab (.c .nilFunc)⟩])
 (ae (al [⟨some 7,false,none,iFunc (.func 73) [] [(.t 3),(.t 4),(.t 5)]⟩,
 ⟨some 6,true,none,ab (.t 7)⟩])
 bg)),[.t 6]⟩
noncomputable def Tryd.kp69:List Nat:=[0,1,2]
noncomputable def Tryd.cf69:CF:=⟨1,(ae (al [⟨some 1,true,none,cT 23 (.t 0)⟩,
 ⟨some 2,true,none,ab (.c (.bool (.lit false)))⟩])
 (ae (al [⟨some 3,false,none,aa 0 (.t 1)⟩,
 ⟨some 4,false,none,au (.t 3)⟩,
 ⟨some 5,false,none,aa 1 (.t 1)⟩,
 ⟨some 6,false,none,au (.t 5)⟩,
 ⟨some 7,false,none,bF .gtr (.t 4) (.t 6)⟩,
 ⟨some 2,true,none,ab (.t 7)⟩])
 bg)),[.t 2]⟩
noncomputable def Tryd.kp70:List Nat:=[0,1,2,3,5,7,8,12,13,14,15,26]
noncomputable def Tryd.cf70:CF:=⟨4,(ae (al [⟨some 9,false,none,ac 39 (.t 1)⟩,
 ⟨some 10,false,none,ac 2 (.t 2)⟩,
 ⟨some 11,false,none,ar (.c (.func (.func 52) [] [])) [(.t 9),(.t 10)]⟩,
 ⟨some 5,true,none,ay 102 [(.int .i64 (.lit 0)),(.int .i64 (.lit 0)),(.int .i64 (.lit 0))]⟩,
 ⟨none,false,none,aj 3 (.t 5) (.t 11)⟩])
 (ae (al [⟨some 12,true,none,au (.t 3)⟩,
 ⟨some 13,true,none,cO (.t 12)⟩,
 ⟨some 14,true,none,ab (.c (.int .i64 (.lit 0)))⟩])
 (aL 0 (eP (ae (al [⟨some 15,true,none,bF .lss (.t 14) (.t 13)⟩])
 (ae (aO (.t 15) aM (dE 0))
 (ae (aL 1 (ae (al [⟨some 16,false,none,bw 2 (.t 12) (.t 14)⟩,
 ⟨some 17,false,none,ac 2 (.t 16)⟩,
 ⟨some 7,true,none,ay 76 [(.int .i64 (.lit 0)),(.int .i64 (.lit 0))]⟩,
 ⟨none,false,none,aj 2 (.t 7) (.t 17)⟩])
 (ae (al [⟨some 18,false,none,ac 39 (.t 1)⟩,
 ⟨some 19,false,none,ac 3 (.t 5)⟩,
 ⟨some 20,false,none,ac 2 (.t 7)⟩,
 ⟨some 21,false,none,ac 2 (.t 2)⟩,
 ⟨some 22,false,none,ar (.c (.func (.func 71) [] [])) [(.t 18),(.t 19),(.t 20),(.t 21)]⟩,
 ⟨some 8,true,none,ay 105 [(.int .i64 (.lit 0)),(.int .i64 (.lit 0)),(.int .i64 (.lit 0)),(.int .i64 (.lit 0)),(.int .i64 (.lit 0)),(.int .i64 (.lit 0)),(.int .i64 (.lit 0))]⟩,
 ⟨none,false,none,aj 7 (.t 8) (.t 22)⟩])
 (ae (ae (al [⟨some 23,false,none,ab (.t 0)⟩,
 ⟨some 24,false,none,ac 7 (.t 8)⟩,
 ⟨some 25,false,none,ar (.t 23) [(.t 24)]⟩,
 ⟨some 26,true,none,iNot (.t 25)⟩])
 (aO (.t 26) bg aM))
 (al [⟨some 27,false,none,aa 2 (.t 8)⟩,
 ⟨some 28,false,none,ac 3 (.t 27)⟩,
 ⟨none,false,none,aj 3 (.t 5) (.t 28)⟩])))))
 (al [⟨some 29,false,none,aF .add (.t 14) (.c (.int .i64 (.lit 1)))⟩,
 ⟨some 14,true,none,ab (.t 29)⟩])))))))),[]⟩
noncomputable def Tryd.kp71:List Nat:=[0,1,2,3,4,5,6,7,8,9,10,11,12,13,14,15,16,34,35,36]
noncomputable def Tryd.cf71:CF:=⟨4,(ae (al [⟨some 4,true,none,cT 69 (.t 0)⟩,
 ⟨some 5,true,none,cT 102 (.t 1)⟩,
 ⟨some 6,true,none,cT 76 (.t 2)⟩,
 ⟨some 7,true,none,cT 95 (.t 3)⟩,
 ⟨some 8,true,none,ay 105 [(.int .i64 (.lit 0)),(.int .i64 (.lit 0)),(.int .i64 (.lit 0)),(.int .i64 (.lit 0)),(.int .i64 (.lit 0)),(.int .i64 (.lit 0)),(.int .i64 (.lit 0))]⟩])
 (ae (al [⟨some 17,false,none,ac 2 (.t 6)⟩,
 ⟨some 18,false,none,aa 0 (.t 5)⟩,
 ⟨some 19,false,none,au (.t 18)⟩,
 ⟨some 20,false,none,aF .add (.t 19) (.c (.int .i64 (.lit 1)))⟩,
 ⟨some 21,false,none,aK [(.int .i64 (.lit 0)),(.int .i64 (.lit 0)),(.int .i64 (.lit 0))] [(0,1,(.t 20))]⟩,
 ⟨some 22,false,none,aK [(.int .i64 (.lit 0)),(.int .i64 (.lit 0)),(.int .i64 (.lit 0)),(.int .i64 (.lit 0)),(.int .i64 (.lit 0)),(.int .i64 (.lit 0)),(.int .i64 (.lit 0))] [(0,2,(.t 17)),(2,3,(.t 21))]⟩,
 ⟨some 9,true,none,ay 105 [(.int .i64 (.lit 0)),(.int .i64 (.lit 0)),(.int .i64 (.lit 0)),(.int .i64 (.lit 0)),(.int .i64 (.lit 0)),(.int .i64 (.lit 0)),(.int .i64 (.lit 0))]⟩,
 ⟨none,false,none,aj 7 (.t 9) (.t 22)⟩])
 (ae (al [⟨some 23,false,none,aa 0 (.t 4)⟩,
 ⟨some 24,false,none,aa 22 (.t 23)⟩,
 ⟨some 25,false,none,au (.t 24)⟩,
 ⟨some 26,false,none,aa 0 (.t 5)⟩,
 ⟨some 27,false,none,au (.t 26)⟩,
 ⟨some 28,false,none,bw 4 (.t 25) (.t 27)⟩,
 ⟨some 29,false,none,ac 4 (.t 28)⟩,
 ⟨some 10,true,none,ay 33 [(.int .i64 (.lit 0)),(.int .i64 (.lit 0)),(.bool (.lit false)),(.int .i64 (.lit 0))]⟩,
 ⟨none,false,none,aj 4 (.t 10) (.t 29)⟩])
 (ae (ae (al [⟨some 30,false,none,aa 0 (.t 6)⟩,
 ⟨some 31,false,none,au (.t 30)⟩,
 ⟨some 32,false,none,aa 1 (.t 6)⟩,
 ⟨some 33,false,none,au (.t 32)⟩,
 ⟨some 34,true,none,aK [(.int .i64 (.lit 0)),(.int .i64 (.lit 0))] [(0,1,(.t 31)),(1,1,(.t 33))]⟩,
 ⟨some 35,true,none,ab (.c (.int .i64 (.lit 0)))⟩])
 (aL 0 (eP (ae (al [⟨some 36,true,none,bF .lss (.t 35) (.c (.int .i64 (.lit 2)))⟩])
 (ae (aO (.t 36) aM (dE 0))
 (ae (aL 1 (ae (al [⟨some 37,false,none,ab (.t 35)⟩,
 ⟨some 38,false,none,iIndex false 1 2 (.t 34) (.t 35)⟩,
 ⟨some 11,true,none,ab (.t 37)⟩,
 ⟨some 12,true,none,ab (.t 38)⟩])
 (ae (al [⟨some 39,false,none,ab (.t 11)⟩,
 ⟨some 40,false,none,aa 23 (.t 4)⟩,
 ⟨some 41,false,none,bB 8 2 (.t 40) (.t 39)⟩,
 ⟨some 42,false,none,ac 8 (.t 41)⟩,
 ⟨some 13,true,none,ay 66 [(.int .i64 (.lit 0)),(.int .i64 (.lit 0)),(.int .i64 (.lit 0)),(.int .i64 (.lit 0)),(.int .i64 (.lit 0)),(.int .i64 (.lit 0)),(.int .i64 (.lit 0)),(.int .i64 (.lit 0))]⟩,
 ⟨none,false,none,aj 8 (.t 13) (.t 42)⟩])
 (ae (dOps 0 [⟨⟨some 43,false,none,aa 2 (.t 13)⟩,[13],false,0,1,none,[]⟩,
 ⟨⟨some 44,false,none,au (.t 43)⟩,[43],false,0,1,none,[]⟩,
 ⟨⟨some 45,false,none,ab (.t 11)⟩,[11],false,0,0,none,[]⟩,
 ⟨⟨some 46,false,none,aa 1 (.t 5)⟩,[5],false,0,0,none,[]⟩,
 ⟨⟨some 47,false,none,bB 1 2 (.t 46) (.t 45)⟩,[46,45],false,0,0,none,[]⟩,
 ⟨⟨some 48,false,none,au (.t 47)⟩,[47],false,0,0,none,[]⟩,
 ⟨⟨some 49,false,none,ab (.t 12)⟩,[12],false,0,0,none,[]⟩,
 ⟨⟨some 50,false,none,aa 3 (.t 13)⟩,[13],false,0,0,none,[]⟩,
 ⟨⟨some 51,false,none,au (.t 50)⟩,[50],false,0,0,none,[]⟩,
 ⟨⟨some 52,false,none,aF .mul (.t 49) (.t 51)⟩,[49,51],false,0,0,none,[]⟩,
 ⟨⟨some 53,false,none,aF .add (.t 48) (.t 52)⟩,[48,52],false,0,0,none,[]⟩,
 ⟨⟨some 54,false,none,cN 3 [(.int .i64 (.lit 0))] 1 [(0,1,(.t 53))]⟩,[53],true,0,0,none,[]⟩,
 ⟨⟨some 55,false,none,ar (.c (.func (.func 74) [] [])) [(.t 44),(.t 54)]⟩,[44,54],true,1,0,none,[]⟩,
 ⟨⟨some 14,true,none,ab (.t 55)⟩,[55],false,2,2,none,[]⟩])
 (ae (dOps 0 [⟨⟨some 56,false,none,aa 1 (.t 7)⟩,[7],false,0,0,none,[]⟩,
 ⟨⟨some 57,false,none,au (.t 56)⟩,[56],false,0,0,none,[]⟩,
 ⟨⟨some 58,false,none,aa 0 (.t 10)⟩,[10],false,0,0,none,[]⟩,
 ⟨⟨some 59,false,none,ac 2 (.t 58)⟩,[58],false,0,0,none,[]⟩,
 ⟨⟨some 60,false,none,ar (.t 57) [(.t 59)]⟩,[57,59],true,0,0,none,[]⟩,
 ⟨⟨some 61,false,none,aa 1 (.t 7)⟩,[7],false,0,2,none,[]⟩,
 ⟨⟨some 62,false,none,au (.t 61)⟩,[61],false,0,2,none,[]⟩,
 ⟨⟨some 63,false,none,ac 8 (.t 13)⟩,[13],false,0,1,none,[]⟩,
 ⟨⟨some 64,false,none,ac 4 (.t 10)⟩,[10],false,0,1,none,[]⟩,
 ⟨⟨some 65,false,none,ar (.c (.func (.func 75) [] [])) [(.t 63),(.t 64)]⟩,[63,64],true,1,0,none,[]⟩,
 ⟨⟨some 66,false,none,ar (.t 62) [(.t 65)]⟩,[62,65],true,2,0,none,[]⟩,
 ⟨⟨some 67,false,none,aF .mul (.t 60) (.t 66)⟩,[60,66],false,3,3,none,[]⟩,
 ⟨⟨some 15,true,none,ab (.t 67)⟩,[67],false,3,3,none,[]⟩])
 (ae (al [⟨some 68,false,none,ab (.t 14)⟩,
 ⟨some 69,false,none,ab (.t 15)⟩,
 ⟨some 70,false,none,cN 3 [(.int .i64 (.lit 0))] 1 [(0,1,(.t 69))]⟩,
 ⟨some 71,false,none,ar (.c (.func (.func 74) [] [])) [(.t 68),(.t 70)]⟩,
 ⟨some 16,true,none,ab (.t 71)⟩])
 (al [⟨some 72,false,none,ab (.t 11)⟩,
 ⟨some 73,false,none,ab (.t 11)⟩,
 ⟨some 74,false,none,ab (.t 14)⟩,
 ⟨some 75,false,none,ab (.t 16)⟩,
 ⟨some 76,false,none,aF .sub (.t 74) (.t 75)⟩,
 ⟨some 77,false,none,ab (.t 15)⟩,
 ⟨some 78,false,none,ab (.t 16)⟩,
 ⟨some 79,false,none,aF .sub (.t 77) (.t 78)⟩,
 ⟨some 80,false,none,aa 2 (.t 9)⟩,
 ⟨some 81,false,none,aa 1 (.t 80)⟩,
 ⟨some 82,false,none,bB 1 2 (.t 81) (.t 72)⟩,
 ⟨none,false,none,aj 1 (.t 82) (.t 76)⟩,
 ⟨some 83,false,none,aa 5 (.t 9)⟩,
 ⟨some 84,false,none,bB 1 2 (.t 83) (.t 73)⟩,
 ⟨none,false,none,aj 1 (.t 84) (.t 79)⟩])))))))
 (al [⟨some 85,false,none,aF .add (.t 35) (.c (.int .i64 (.lit 1)))⟩,
 ⟨some 35,true,none,ab (.t 85)⟩])))))))
 (ae (al [⟨some 86,false,none,ac 7 (.t 9)⟩,
 ⟨none,false,none,aj 7 (.t 8) (.t 86)⟩])
 bg))))),[.cell 8 true 7]⟩
noncomputable def Tryd.kp72:List Nat:=[0,1,2,3,4]
noncomputable def Tryd.cf72:CF:=⟨2,(ae (al [⟨some 2,true,none,cT 23 (.t 0)⟩,
 ⟨some 3,true,none,cT 23 (.t 1)⟩,
 ⟨some 4,true,none,ab (.c (.bool (.lit false)))⟩])
 (ae (al [⟨some 5,false,none,aa 0 (.t 3)⟩,
 ⟨some 6,false,none,au (.t 5)⟩,
 ⟨some 7,false,none,aa 0 (.t 2)⟩,
 ⟨some 8,false,none,au (.t 7)⟩,
 ⟨some 9,false,none,bF .leq (.t 6) (.t 8)⟩,
 ⟨some 10,false,none,ab (.t 9)⟩,
 ⟨some 11,false,some (10,true),aa 0 (.t 2)⟩,
 ⟨some 12,false,some (10,true),au (.t 11)⟩,
 ⟨some 13,false,some (10,true),aa 1 (.t 2)⟩,
 ⟨some 14,false,some (10,true),au (.t 13)⟩,
 ⟨some 15,false,some (10,true),bF .leq (.t 12) (.t 14)⟩,
 ⟨some 16,false,none,aR (.t 10) (.t 15) (.c (.bool (.lit false)))⟩,
 ⟨some 17,false,none,ab (.t 16)⟩,
 ⟨some 18,false,some (17,true),aa 1 (.t 2)⟩,
 ⟨some 19,false,some (17,true),au (.t 18)⟩,
 ⟨some 20,false,some (17,true),aa 1 (.t 3)⟩,
 ⟨some 21,false,some (17,true),au (.t 20)⟩,
 ⟨some 22,false,some (17,true),bF .leq (.t 19) (.t 21)⟩,
 ⟨some 23,false,none,aR (.t 17) (.t 22) (.c (.bool (.lit false)))⟩,
 ⟨some 4,true,none,ab (.t 23)⟩])
 bg)),[.t 4]⟩
noncomputable def Tryd.kp73:List Nat:=[0,1,2,3,5,6,7,17,18,19,24,25,26,37]
noncomputable def Tryd.cf73:CF:=⟨4,(ae (al [⟨some 8,false,none,aa 0 (.t 1)⟩,
 ⟨some 9,false,none,aa 22 (.t 8)⟩,
 ⟨some 10,false,none,au (.t 9)⟩,
 ⟨some 11,false,none,aa 0 (.t 2)⟩,
 ⟨some 12,false,none,au (.t 11)⟩,
 ⟨some 13,false,none,bw 4 (.t 10) (.t 12)⟩,
 ⟨some 14,false,none,aa 3 (.t 13)⟩,
 ⟨some 15,false,none,au (.t 14)⟩,
 ⟨some 5,true,none,ab (.t 15)⟩])
 (ae (al [⟨some 16,false,none,ab (.t 5)⟩,
 ⟨some 17,true,none,aF .add (.t 16) (.c (.int .i64 (.lit 1)))⟩,
 ⟨some 18,true,none,ab (.c (.int .i64 (.lit 0)))⟩])
 (aL 0 (eP (ae (al [⟨some 19,true,none,bF .lss (.t 18) (.t 17)⟩])
 (ae (aO (.t 19) aM (dE 0))
 (ae (aL 1 (ae (al [⟨some 20,false,none,ab (.t 18)⟩,
 ⟨some 6,true,none,ab (.t 20)⟩])
 (ae (al [⟨some 21,false,none,ab (.t 5)⟩,
 ⟨some 22,false,none,ab (.t 6)⟩,
 ⟨some 23,false,none,aF .sub (.t 21) (.t 22)⟩,
 ⟨some 24,true,none,aF .add (.t 23) (.c (.int .i64 (.lit 1)))⟩,
 ⟨some 25,true,none,ab (.c (.int .i64 (.lit 0)))⟩])
 (aL 2 (eP (ae (al [⟨some 26,true,none,bF .lss (.t 25) (.t 24)⟩])
 (ae (aO (.t 26) aM (dE 2))
 (ae (aL 3 (ae (al [⟨some 27,false,none,ab (.t 25)⟩,
 ⟨some 7,true,none,ab (.t 27)⟩])
 (ae (al [⟨some 28,false,none,ab (.t 0)⟩,
 ⟨some 29,false,none,ac 39 (.t 1)⟩,
 ⟨some 30,false,none,ac 3 (.t 2)⟩,
 ⟨some 31,false,none,ab (.t 6)⟩,
 ⟨some 32,false,none,ab (.t 7)⟩,
 ⟨some 33,false,none,aK [(.int .i64 (.lit 0)),(.int .i64 (.lit 0))] [(0,1,(.t 31)),(1,1,(.t 32))]⟩,
 ⟨some 34,false,none,ac 2 (.t 3)⟩,
 ⟨some 35,false,none,ar (.c (.func (.func 71) [] [])) [(.t 29),(.t 30),(.t 33),(.t 34)]⟩,
 ⟨some 36,false,none,ar (.t 28) [(.t 35)]⟩,
 ⟨some 37,true,none,iNot (.t 36)⟩])
 (aO (.t 37) bg aM))))
 (al [⟨some 38,false,none,aF .add (.t 25) (.c (.int .i64 (.lit 1)))⟩,
 ⟨some 25,true,none,ab (.t 38)⟩])))))))))
 (al [⟨some 39,false,none,aF .add (.t 18) (.c (.int .i64 (.lit 1)))⟩,
 ⟨some 18,true,none,ab (.t 39)⟩])))))))),[]⟩
noncomputable def Tryd.kp74:List Nat:=[0,1,4,6,7,8,9,10,15]
noncomputable def Tryd.cf74:CF:=⟨2,(ae (al [⟨some 4,true,none,ab (.c (.int .i64 (.lit 0)))⟩])
 (ae (ae (al [⟨some 7,true,none,ab (.t 1)⟩,
 ⟨some 8,true,none,cO (.t 7)⟩,
 ⟨some 9,true,none,ab (.c (.int .i64 (.lit 0)))⟩])
 (aL 0 (eP (ae (al [⟨some 10,true,none,bF .lss (.t 9) (.t 8)⟩])
 (ae (aO (.t 10) aM (dE 0))
 (ae (aL 1 (ae (al [⟨some 11,false,none,bw 1 (.t 7) (.t 9)⟩,
 ⟨some 12,false,none,au (.t 11)⟩,
 ⟨some 6,true,none,ab (.t 12)⟩])
 (ae (al [⟨some 13,false,none,ab (.t 6)⟩,
 ⟨some 14,false,none,ab (.t 0)⟩,
 ⟨some 15,true,none,bF .lss (.t 13) (.t 14)⟩])
 (aO (.t 15) (al [⟨some 16,false,none,ab (.t 6)⟩,
 ⟨some 0,true,none,ab (.t 16)⟩]) aM))))
 (al [⟨some 17,false,none,aF .add (.t 9) (.c (.int .i64 (.lit 1)))⟩,
 ⟨some 9,true,none,ab (.t 17)⟩])))))))
 (ae (al [⟨some 18,false,none,ab (.t 0)⟩,
 ⟨some 4,true,none,ab (.t 18)⟩])
 bg))),[.t 4]⟩
noncomputable def Tryd.kp75:List Nat:=[0,1,2,3,4,6]
noncomputable def Tryd.cf75:CF:=⟨2,(ae (al [⟨some 2,true,none,cT 66 (.t 0)⟩,
 ⟨some 3,true,none,cT 33 (.t 1)⟩,
 ⟨some 4,true,none,ay 23 [(.int .i64 (.lit 0)),(.int .i64 (.lit 0))]⟩])
 (ae (ae (al [⟨some 5,false,none,aa 2 (.t 3)⟩,
 ⟨some 6,true,none,au (.t 5)⟩])
 (aO (.t 6) (ae (al [⟨some 7,false,none,aa 4 (.t 2)⟩,
 ⟨some 8,false,none,bB 2 2 (.t 7) (.c (.int .i64 (.lit 1)))⟩,
 ⟨some 9,false,none,ac 2 (.t 8)⟩,
 ⟨none,false,none,aj 2 (.t 4) (.t 9)⟩])
 bg) aM))
 (ae (al [⟨some 10,false,none,aa 4 (.t 2)⟩,
 ⟨some 11,false,none,bB 2 2 (.t 10) (.c (.int .i64 (.lit 0)))⟩,
 ⟨some 12,false,none,ac 2 (.t 11)⟩,
 ⟨none,false,none,aj 2 (.t 4) (.t 12)⟩])
 bg))),[.cell 4 true 2]⟩
noncomputable def Tryd.ft:PT CF:=(.node none (.node none (.node none (.node (some Tryd.cf7) (.node (some Tryd.cf15) (.node (some Tryd.cf31) (.node (some Tryd.cf63) .nil .nil) .nil) (.node (some Tryd.cf47) .nil .nil)) (.node (some Tryd.cf23) (.node (some Tryd.cf39) (.node (some Tryd.cf71) .nil .nil) .nil) (.node (some Tryd.cf55) .nil .nil))) (.node none (.node (some Tryd.cf19) (.node none (.node (some Tryd.cf67) .nil .nil) .nil) (.node (some Tryd.cf51) .nil .nil)) (.node (some Tryd.cf27) (.node (some Tryd.cf43) (.node (some Tryd.cf75) .nil .nil) .nil) (.node (some Tryd.cf59) .nil .nil)))) (.node (some Tryd.cf5) (.node (some Tryd.cf9) (.node (some Tryd.cf17) (.node (some Tryd.cf33) (.node (some Tryd.cf65) .nil .nil) .nil) (.node (some Tryd.cf49) .nil .nil)) (.node (some Tryd.cf25) (.node (some Tryd.cf41) (.node (some Tryd.cf73) .nil .nil) .nil) (.node (some Tryd.cf57) .nil .nil))) (.node none (.node (some Tryd.cf21) (.node (some Tryd.cf37) (.node (some Tryd.cf69) .nil .nil) .nil) (.node (some Tryd.cf53) .nil .nil)) (.node (some Tryd.cf29) (.node (some Tryd.cf45) .nil .nil) (.node (some Tryd.cf61) .nil .nil))))) (.node none (.node none (.node (some Tryd.cf8) (.node (some Tryd.cf16) (.node (some Tryd.cf32) (.node (some Tryd.cf64) .nil .nil) .nil) (.node (some Tryd.cf48) .nil .nil)) (.node (some Tryd.cf24) (.node (some Tryd.cf40) (.node (some Tryd.cf72) .nil .nil) .nil) (.node (some Tryd.cf56) .nil .nil))) (.node none (.node (some Tryd.cf20) (.node (some Tryd.cf36) (.node (some Tryd.cf68) .nil .nil) .nil) (.node (some Tryd.cf52) .nil .nil)) (.node (some Tryd.cf28) (.node (some Tryd.cf44) .nil .nil) (.node (some Tryd.cf60) .nil .nil)))) (.node (some Tryd.cf6) (.node (some Tryd.cf10) (.node (some Tryd.cf18) (.node (some Tryd.cf34) (.node (some Tryd.cf66) .nil .nil) .nil) (.node (some Tryd.cf50) .nil .nil)) (.node (some Tryd.cf26) (.node (some Tryd.cf42) (.node (some Tryd.cf74) .nil .nil) .nil) (.node (some Tryd.cf58) .nil .nil))) (.node none (.node (some Tryd.cf22) (.node (some Tryd.cf38) (.node (some Tryd.cf70) .nil .nil) .nil) (.node (some Tryd.cf54) .nil .nil)) (.node (some Tryd.cf30) (.node (some Tryd.cf46) .nil .nil) (.node (some Tryd.cf62) .nil .nil))))))
noncomputable def Tryd.rt:List (Nat × (C × C)):=[(38017,(Tryd.ra38017,Tryd.rb38017)),(41021,(Tryd.ra41021,Tryd.rb41021)),(41033,(Tryd.ra41033,Tryd.rb41033)),(67040,(Tryd.ra67040,Tryd.rb67040))]
end Go.Sx
