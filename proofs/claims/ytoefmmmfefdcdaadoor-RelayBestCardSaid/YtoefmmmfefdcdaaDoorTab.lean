/- Tab -/
import Derived.Test.YtoefmmmfefdcdaaDoorSxOps4
import Derived.KernelRfl
namespace Go.Sx
set_option maxRecDepth 100000
noncomputable def Tryd.ti3 : TI := ⟨.int .i64,1,8,(some (.int .i64 (.lit 0))),false⟩
noncomputable def Tryd.ti4 : TI := ⟨.bool,1,1,(some (.bool (.lit false))),false⟩
noncomputable def Tryd.ti22 : TI := ⟨.slice 107,1,24,(some .nilslice),false⟩
noncomputable def Tryd.ti24 : TI := ⟨.struct #[⟨ "Low",3,0,false,"","",0⟩,⟨ "High",3,1,false,"","",8⟩],2,16,(some (.agg [(.int .i64 (.lit 0)),(.int .i64 (.lit 0))])),true⟩
noncomputable def Tryd.ti26 : TI := ⟨.struct #[⟨ "Reels",22,0,false,"","",0⟩,⟨ "Turn",24,1,false,"","",24⟩,⟨ "Tear",24,3,false,"","",40⟩,⟨ "Spool",3,5,false,"","",56⟩],6,64,(some (.agg [.nilslice,(.int .i64 (.lit 0)),(.int .i64 (.lit 0)),(.int .i64 (.lit 0)),(.int .i64 (.lit 0)),(.int .i64 (.lit 0))])),true⟩
noncomputable def Tryd.ti28 : TI := ⟨.struct #[⟨ "Film",26,0,false,"","",0⟩,⟨ "Shows",3,6,false,"","",64⟩,⟨ "Go",24,7,false,"","",72⟩,⟨ "Back",24,9,false,"","",88⟩,⟨ "Carry",3,11,false,"","",104⟩],12,112,(some (.agg [.nilslice,(.int .i64 (.lit 0)),(.int .i64 (.lit 0)),(.int .i64 (.lit 0)),(.int .i64 (.lit 0)),(.int .i64 (.lit 0)),(.int .i64 (.lit 0)),(.int .i64 (.lit 0)),(.int .i64 (.lit 0)),(.int .i64 (.lit 0)),(.int .i64 (.lit 0)),(.int .i64 (.lit 0))])),true⟩
noncomputable def Tryd.ti29 : TI := ⟨.slice 3,1,24,(some .nilslice),false⟩
noncomputable def Tryd.ti30 : TI := ⟨.int .i64,1,8,(some (.int .i64 (.lit 0))),false⟩
noncomputable def Tryd.ti40 : TI := ⟨.array 2 3,2,16,(some (.agg [(.int .i64 (.lit 0)),(.int .i64 (.lit 0))])),true⟩
noncomputable def Tryd.ti50 : TI := ⟨.map 114 124,1,8,(some .nilmap),false⟩
noncomputable def Tryd.ti52 : TI := ⟨.struct #[⟨ "RelayBook",28,0,true,"","",0⟩,⟨ "order",29,12,false,"","bioscope/relay",112⟩,⟨ "found",50,13,false,"","bioscope/relay",136⟩],14,144,(some (.agg [.nilslice,(.int .i64 (.lit 0)),(.int .i64 (.lit 0)),(.int .i64 (.lit 0)),(.int .i64 (.lit 0)),(.int .i64 (.lit 0)),(.int .i64 (.lit 0)),(.int .i64 (.lit 0)),(.int .i64 (.lit 0)),(.int .i64 (.lit 0)),(.int .i64 (.lit 0)),(.int .i64 (.lit 0)),.nilslice,.nilmap])),true⟩
noncomputable def Tryd.ti56 : TI := ⟨.func #[78,78] #[4] false,1,8,(some .nilFunc),false⟩
noncomputable def Tryd.ti58 : TI := ⟨.struct #[⟨ "start",3,0,false,"","bioscope/relay",0⟩,⟨ "isBetter",56,1,false,"","bioscope/relay",8⟩],2,16,(some (.agg [(.int .i64 (.lit 0)),.nilFunc])),true⟩
noncomputable def Tryd.ti65 : TI := ⟨.slice 24,1,24,(some .nilslice),false⟩
noncomputable def Tryd.ti78 : TI := ⟨.struct #[⟨ "plan",29,0,false,"","bioscope/relay",0⟩,⟨ "start",3,1,false,"","bioscope/relay",24⟩],2,32,(some (.agg [.nilslice,(.int .i64 (.lit 0))])),true⟩
noncomputable def Tryd.ti84 : TI := ⟨.func #[29] #[4] false,1,8,(some .nilFunc),false⟩
noncomputable def Tryd.ti87 : TI := ⟨.func #[110] #[3] false,1,8,(some .nilFunc),false⟩
noncomputable def Tryd.ti88 : TI := ⟨.array 2 87,2,16,(some (.agg [.nilFunc,.nilFunc])),true⟩
noncomputable def Tryd.ti90 : TI := ⟨.struct #[⟨ "book",52,0,true,"","bioscope/relay",0⟩,⟨ "ends",88,14,false,"","bioscope/relay",144⟩],16,160,(some (.agg [.nilslice,(.int .i64 (.lit 0)),(.int .i64 (.lit 0)),(.int .i64 (.lit 0)),(.int .i64 (.lit 0)),(.int .i64 (.lit 0)),(.int .i64 (.lit 0)),(.int .i64 (.lit 0)),(.int .i64 (.lit 0)),(.int .i64 (.lit 0)),(.int .i64 (.lit 0)),(.int .i64 (.lit 0)),.nilslice,.nilmap,.nilFunc,.nilFunc])),true⟩
noncomputable def Tryd.ti96 : TI := ⟨.map 130 128,1,8,(some .nilmap),false⟩
noncomputable def Tryd.ti98 : TI := ⟨.struct #[⟨ "ReelFilm",26,0,true,"","",0⟩,⟨ "found",96,6,false,"","bioscope/reel",64⟩],7,72,(some (.agg [.nilslice,(.int .i64 (.lit 0)),(.int .i64 (.lit 0)),(.int .i64 (.lit 0)),(.int .i64 (.lit 0)),(.int .i64 (.lit 0)),.nilmap])),true⟩
noncomputable def Tryd.ti102 : TI := ⟨.array 2 24,4,32,(some (.agg [(.int .i64 (.lit 0)),(.int .i64 (.lit 0)),(.int .i64 (.lit 0)),(.int .i64 (.lit 0))])),true⟩
noncomputable def Tryd.ti104 : TI := ⟨.array 6 3,6,48,(some (.agg [(.int .i64 (.lit 0)),(.int .i64 (.lit 0)),(.int .i64 (.lit 0)),(.int .i64 (.lit 0)),(.int .i64 (.lit 0)),(.int .i64 (.lit 0))])),true⟩
noncomputable def Tryd.ti105 : TI := ⟨.func #[3,3] #[4] false,1,8,(some .nilFunc),false⟩
noncomputable def Tryd.ti107 : TI := ⟨.struct #[⟨ "First",24,0,false,"","",0⟩,⟨ "Last",24,2,false,"","",16⟩,⟨ "Feet",24,4,false,"","",32⟩],6,48,(some (.agg [(.int .i64 (.lit 0)),(.int .i64 (.lit 0)),(.int .i64 (.lit 0)),(.int .i64 (.lit 0)),(.int .i64 (.lit 0)),(.int .i64 (.lit 0))])),true⟩
noncomputable def Tryd.ti110 : TI := ⟨.struct #[⟨ "Low",3,0,false,"","",0⟩,⟨ "High",3,1,false,"","",8⟩],2,16,(some (.agg [(.int .i64 (.lit 0)),(.int .i64 (.lit 0))])),true⟩
noncomputable def Tryd.ti114 : TI := ⟨.struct #[⟨ "reel",3,0,false,"","bioscope/relay",0⟩,⟨ "shows",3,1,false,"","bioscope/relay",8⟩],2,16,(some (.agg [(.int .i64 (.lit 0)),(.int .i64 (.lit 0))])),true⟩
noncomputable def Tryd.ti117 : TI := ⟨.slice 29,1,24,(some .nilslice),false⟩
noncomputable def Tryd.ti120 : TI := ⟨.array 6 4,6,6,(some (.agg [(.bool (.lit false)),(.bool (.lit false)),(.bool (.lit false)),(.bool (.lit false)),(.bool (.lit false)),(.bool (.lit false))])),true⟩
noncomputable def Tryd.ti122 : TI := ⟨.func #[130] #[128] false,1,8,(some .nilFunc),false⟩
noncomputable def Tryd.ti123 : TI := ⟨.array 3 24,6,48,(some (.agg [(.int .i64 (.lit 0)),(.int .i64 (.lit 0)),(.int .i64 (.lit 0)),(.int .i64 (.lit 0)),(.int .i64 (.lit 0)),(.int .i64 (.lit 0))])),true⟩
noncomputable def Tryd.ti124 : TI := ⟨.array 2 24,4,32,(some (.agg [(.int .i64 (.lit 0)),(.int .i64 (.lit 0)),(.int .i64 (.lit 0)),(.int .i64 (.lit 0))])),true⟩
noncomputable def Tryd.ti126 : TI := ⟨.func #[3,120,128] #[4] false,1,8,(some .nilFunc),false⟩
noncomputable def Tryd.ti128 : TI := ⟨.struct #[⟨ "first",3,0,false,"","bioscope/reel",0⟩,⟨ "behind",3,1,false,"","bioscope/reel",8⟩],2,16,(some (.agg [(.int .i64 (.lit 0)),(.int .i64 (.lit 0))])),true⟩
noncomputable def Tryd.ti130 : TI := ⟨.struct #[⟨ "reel",3,0,false,"","bioscope/reel",0⟩,⟨ "before",128,1,false,"","bioscope/reel",8⟩],3,24,(some (.agg [(.int .i64 (.lit 0)),(.int .i64 (.lit 0)),(.int .i64 (.lit 0))])),true⟩
noncomputable def Tryd.ti137 : TI := ⟨.func #[142] #[3] false,1,8,(some .nilFunc),false⟩
noncomputable def Tryd.ti139 : TI := ⟨.struct #[⟨ "adds",137,0,false,"","bioscope/reel",0⟩,⟨ "takes",137,1,false,"","bioscope/reel",8⟩],2,16,(some (.agg [.nilFunc,.nilFunc])),true⟩
noncomputable def Tryd.ti142 : TI := ⟨.struct #[⟨ "Low",3,0,false,"","",0⟩,⟨ "High",3,1,false,"","",8⟩],2,16,(some (.agg [(.int .i64 (.lit 0)),(.int .i64 (.lit 0))])),true⟩
noncomputable def Tryd.ti146 : TI := ⟨.array 2 139,4,32,(some (.agg [.nilFunc,.nilFunc,.nilFunc,.nilFunc])),true⟩
noncomputable def Tryd.tt : PT TI := (.node none (.node none (.node (some Tryd.ti3) (.node none .nil (.node none .nil (.node none (.node (some Tryd.ti87) .nil .nil) .nil))) (.node none .nil (.node none (.node none (.node none (.node (some Tryd.ti139) .nil .nil) .nil) (.node (some Tryd.ti107) .nil .nil)) (.node none .nil (.node (some Tryd.ti123) .nil .nil))))) (.node none (.node none (.node none (.node none (.node (some Tryd.ti65) .nil .nil) .nil) .nil) (.node none (.node none (.node none (.node (some Tryd.ti137) .nil .nil) .nil) (.node (some Tryd.ti105) .nil .nil)) .nil)) (.node none (.node none .nil (.node none .nil (.node (some Tryd.ti117) .nil .nil))) (.node (some Tryd.ti29) .nil .nil)))) (.node none (.node (some Tryd.ti4) (.node none (.node none (.node none (.node none (.node (some Tryd.ti128) .nil .nil) .nil) (.node (some Tryd.ti96) .nil .nil)) .nil) (.node (some Tryd.ti24) (.node (some Tryd.ti40) .nil (.node (some Tryd.ti104) .nil .nil)) (.node (some Tryd.ti56) (.node (some Tryd.ti88) .nil .nil) (.node (some Tryd.ti120) .nil .nil)))) (.node none (.node none .nil (.node (some Tryd.ti52) (.node (some Tryd.ti84) .nil .nil) .nil)) (.node (some Tryd.ti28) .nil (.node none .nil (.node (some Tryd.ti124) .nil .nil))))) (.node none (.node none (.node none (.node none (.node none (.node (some Tryd.ti130) .nil .nil) .nil) (.node (some Tryd.ti98) .nil .nil)) (.node (some Tryd.ti50) (.node none (.node (some Tryd.ti146) .nil .nil) .nil) (.node (some Tryd.ti114) .nil .nil))) (.node (some Tryd.ti26) .nil (.node (some Tryd.ti58) (.node (some Tryd.ti90) .nil .nil) (.node (some Tryd.ti122) .nil .nil)))) (.node none (.node (some Tryd.ti22) (.node none .nil (.node (some Tryd.ti102) .nil .nil)) .nil) (.node (some Tryd.ti30) (.node none (.node (some Tryd.ti78) (.node (some Tryd.ti142) .nil .nil) .nil) (.node (some Tryd.ti110) .nil .nil)) (.node none .nil (.node (some Tryd.ti126) .nil .nil)))))))
noncomputable def Tryd.kp3 : List Nat := [0,1,2,4,5,6,7,8,10,11,13,21,39]
noncomputable def Tryd.cf3 : CF := ⟨2,(cSeq (cOps [⟨some 2,true,none,iBox 28 (.t 0)⟩,
 ⟨some 4,true,none,iMov (.c (.bool (.lit false)))⟩])
 (cSeq (cOps [⟨some 15,false,none,iLoadN 12 (.t 2)⟩,
 ⟨some 16,false,none,iCall (.c (.func (.func 6) [] [])) [(.t 15)]⟩,
 ⟨some 14,false,none,iMov (.t 16)⟩,
 ⟨some 17,false,none,iExtract 0 (.t 14)⟩,
 ⟨some 18,false,none,iExtract 1 (.t 14)⟩,
 ⟨some 5,true,none,iMov (.t 17)⟩,
 ⟨some 6,true,none,iMov (.t 18)⟩])
 (cSeq (cSeq (cOps [⟨some 19,false,none,iLoadN 12 (.t 2)⟩,
 ⟨some 20,false,none,iCall (.c (.func (.func 7) [] [])) [(.t 19)]⟩,
 ⟨some 21,true,none,iNot (.t 20)⟩])
 (cCond (.t 21) (cSeq (cOps [⟨some 22,false,none,iMov (.t 6)⟩,
 ⟨some 23,false,none,iCmp .eql (.t 22) (.c (.int .i64 (.lit 80)))⟩,
 ⟨some 24,false,none,iMov (.t 23)⟩,
 ⟨some 25,false,some (24,true),iMov (.t 5)⟩,
 ⟨some 26,false,some (24,true),iLenS (.t 25)⟩,
 ⟨some 27,false,some (24,true),iCmp .eql (.t 26) (.c (.int .i64 (.lit 0)))⟩,
 ⟨some 28,false,none,iPick (.t 24) (.t 27) (.c (.bool (.lit false)))⟩,
 ⟨some 29,false,none,iMov (.t 28)⟩,
 ⟨some 30,false,some (29,true),iCall (.c (.func (.func 8) [] [])) []⟩,
 ⟨some 31,false,none,iPick (.t 29) (.t 30) (.c (.bool (.lit false)))⟩,
 ⟨some 4,true,none,iMov (.t 31)⟩])
 cRet) cSkip))
 (cSeq (cSeq (cOps [⟨some 32,false,none,iMov (.t 6)⟩,
 ⟨some 33,false,none,iCmp .neq (.t 32) (.c (.int .i64 (.lit 0)))⟩,
 ⟨some 34,false,none,iMov (.t 33)⟩,
 ⟨some 35,false,some (34,false),iLoadN 12 (.t 2)⟩,
 ⟨some 36,false,some (34,false),iMov (.t 5)⟩,
 ⟨some 37,false,some (34,false),iCall (.c (.func (.func 9) [] [])) [(.t 35),(.t 36)]⟩,
 ⟨some 38,false,some (34,false),iNot (.t 37)⟩,
 ⟨some 39,true,none,iPick (.t 34) (.c (.bool (.lit true))) (.t 38)⟩])
 (cCond (.t 39) (cSeq (cOps [⟨some 4,true,none,iMov (.c (.bool (.lit false)))⟩])
 cRet) cSkip))
 (cSeq (cOps [⟨some 40,false,none,iLoadN 12 (.t 2)⟩,
 ⟨some 41,false,none,iMov (.t 1)⟩,
 ⟨some 42,false,none,iCall (.c (.func (.func 10) [] [])) [(.t 40),(.t 41)]⟩,
 ⟨some 7,true,none,iMov (.t 42)⟩])
 (cSeq (cOps [⟨some 44,false,none,iLoadN 12 (.t 2)⟩,
 ⟨some 45,false,none,iMov (.t 5)⟩,
 ⟨some 46,false,none,iCall (.c (.func (.func 11) [] [])) [(.t 44),(.t 45)]⟩,
 ⟨some 43,false,none,iMov (.t 46)⟩,
 ⟨some 47,false,none,iExtract 0 (.t 43)⟩,
 ⟨some 48,false,none,iExtract 1 (.t 43)⟩,
 ⟨some 49,false,none,iExtract 2 (.t 43)⟩,
 ⟨some 8,true,none,iMov (.t 47)⟩,
 ⟨some 9,false,none,iMov (.t 48)⟩,
 ⟨some 10,true,none,iMov (.t 49)⟩])
 (cSeq (cOps [⟨some 51,false,none,iLoadN 12 (.t 2)⟩,
 ⟨some 52,false,none,iMov (.t 7)⟩,
 ⟨some 53,false,none,iCall (.c (.func (.func 11) [] [])) [(.t 51),(.t 52)]⟩,
 ⟨some 50,false,none,iMov (.t 53)⟩,
 ⟨some 54,false,none,iExtract 0 (.t 50)⟩,
 ⟨some 55,false,none,iExtract 1 (.t 50)⟩,
 ⟨some 56,false,none,iExtract 2 (.t 50)⟩,
 ⟨some 11,true,none,iMov (.t 54)⟩,
 ⟨some 12,false,none,iMov (.t 55)⟩,
 ⟨some 13,true,none,iMov (.t 56)⟩])
 (cSeq (cOps [⟨some 57,false,none,iMov (.t 10)⟩,
 ⟨some 58,false,none,iCmp .eql (.t 57) (.c (.int .i64 (.lit 0)))⟩,
 ⟨some 59,false,none,iMov (.t 58)⟩,
 ⟨some 60,false,some (59,true),iMov (.t 13)⟩,
 ⟨some 61,false,some (59,true),iCmp .eql (.t 60) (.c (.int .i64 (.lit 0)))⟩,
 ⟨some 62,false,none,iPick (.t 59) (.t 61) (.c (.bool (.lit false)))⟩,
 ⟨some 63,false,none,iMov (.t 62)⟩,
 ⟨some 64,false,some (63,true),iMov (.t 11)⟩,
 ⟨some 65,false,some (63,true),iMov (.t 8)⟩,
 ⟨some 66,false,some (63,true),iCmp .gtr (.t 64) (.t 65)⟩,
 ⟨some 67,false,some (63,true),iMov (.t 66)⟩,
 ⟨some 68,false,some (67,false),iMov (.t 11)⟩,
 ⟨some 69,false,some (67,false),iMov (.t 8)⟩,
 ⟨some 70,false,some (67,false),iCmp .eql (.t 68) (.t 69)⟩,
 ⟨some 71,false,some (67,false),iMov (.t 70)⟩,
 ⟨some 72,false,some (71,true),iMov (.t 7)⟩,
 ⟨some 73,false,some (71,true),iLenS (.t 72)⟩,
 ⟨some 74,false,some (71,true),iMov (.t 5)⟩,
 ⟨some 75,false,some (71,true),iLenS (.t 74)⟩,
 ⟨some 76,false,some (71,true),iCmp .gtr (.t 73) (.t 75)⟩,
 ⟨some 77,false,some (71,true),iMov (.t 76)⟩,
 ⟨some 78,false,some (77,false),iMov (.t 7)⟩,
 ⟨some 79,false,some (77,false),iLenS (.t 78)⟩,
 ⟨some 80,false,some (77,false),iMov (.t 5)⟩,
 ⟨some 81,false,some (77,false),iLenS (.t 80)⟩,
 ⟨some 82,false,some (77,false),iCmp .eql (.t 79) (.t 81)⟩,
 ⟨some 83,false,some (77,false),iMov (.t 82)⟩,
 ⟨some 84,false,some (83,true),iMov (.t 7)⟩,
 ⟨some 85,false,some (83,true),iMov (.t 5)⟩,
 ⟨some 86,false,some (83,true),iCall (.c (.func (.func 12) [] [])) [(.t 84),(.t 85)]⟩,
 ⟨some 87,false,some (83,true),iNot (.t 86)⟩,
 ⟨some 88,false,some (77,false),iPick (.t 83) (.t 87) (.c (.bool (.lit false)))⟩,
 ⟨some 89,false,some (71,true),iPick (.t 77) (.c (.bool (.lit true))) (.t 88)⟩,
 ⟨some 90,false,some (67,false),iPick (.t 71) (.t 89) (.c (.bool (.lit false)))⟩,
 ⟨some 91,false,some (63,true),iPick (.t 67) (.c (.bool (.lit true))) (.t 90)⟩,
 ⟨some 92,false,none,iPick (.t 63) (.t 91) (.c (.bool (.lit false)))⟩,
 ⟨some 93,false,none,iMov (.t 92)⟩,
 ⟨some 94,false,some (93,true),iCall (.c (.func (.func 8) [] [])) []⟩,
 ⟨some 95,false,none,iPick (.t 93) (.t 94) (.c (.bool (.lit false)))⟩,
 ⟨some 4,true,none,iMov (.t 95)⟩])
 cRet)))))))),[.t 4]⟩
noncomputable def Tryd.kp6 : List Nat := [0,1,2,3,4,5,12]
noncomputable def Tryd.cf6 : CF := ⟨1,(cSeq (cOps [⟨some 1,true,none,iBox 28 (.t 0)⟩,
 ⟨some 2,true,none,iMov (.c .nilslice)⟩,
 ⟨some 3,true,none,iMov (.c (.int .i64 (.lit 0)))⟩])
 (cSeq (cOps [⟨some 7,false,none,iLoadN 12 (.t 1)⟩,
 ⟨some 8,false,none,iCall (.c (.func (.func 18) [] [])) [(.t 7)]⟩,
 ⟨some 6,false,none,iMov (.t 8)⟩,
 ⟨some 9,false,none,iExtract 0 (.t 6)⟩,
 ⟨some 10,false,none,iExtract 1 (.t 6)⟩,
 ⟨some 4,true,none,iAlloc 52 [.nilslice,(.int .i64 (.lit 0)),(.int .i64 (.lit 0)),(.int .i64 (.lit 0)),(.int .i64 (.lit 0)),(.int .i64 (.lit 0)),(.int .i64 (.lit 0)),(.int .i64 (.lit 0)),(.int .i64 (.lit 0)),(.int .i64 (.lit 0)),(.int .i64 (.lit 0)),(.int .i64 (.lit 0)),.nilslice,.nilmap]⟩,
 ⟨none,false,none,iStore 14 (.t 4) (.t 9)⟩,
 ⟨some 5,true,none,iMov (.t 10)⟩])
 (cSeq (cSeq (cOps [⟨some 11,false,none,iMov (.t 5)⟩,
 ⟨some 12,true,none,iCmp .neq (.t 11) (.c (.int .i64 (.lit 0)))⟩])
 (cCond (.t 12) (cSeq (cOps [⟨some 13,false,none,iMov (.t 5)⟩,
 ⟨some 2,true,none,iMov (.c .nilslice)⟩,
 ⟨some 3,true,none,iMov (.t 13)⟩])
 cRet) cSkip))
 (cSeq (cOps [⟨some 14,false,none,iLoadN 14 (.t 4)⟩,
 ⟨some 15,false,none,iBuild [(.int .i64 (.lit 0)),.nilFunc] [(0,1,(.c (.int .i64 (.lit 9223372036854775807)))),(1,1,(.c (.func (.func 20) [] [])))]⟩,
 ⟨some 16,false,none,iCall (.c (.func (.func 19) [] [])) [(.t 14),(.t 15)]⟩,
 ⟨some 17,false,none,iExtract 0 (.t 16)⟩,
 ⟨some 18,false,none,iExtract 1 (.t 16)⟩,
 ⟨some 2,true,none,iMov (.t 17)⟩,
 ⟨some 3,true,none,iMov (.t 18)⟩])
 cRet)))),[.t 2,.t 3]⟩
noncomputable def Tryd.kp7 : List Nat := [0,1,2]
noncomputable def Tryd.cf7 : CF := ⟨1,(cSeq (cOps [⟨some 1,true,none,iBox 28 (.t 0)⟩,
 ⟨some 2,true,none,iMov (.c (.bool (.lit false)))⟩])
 (cSeq (cOps [⟨some 3,false,none,iLoadN 12 (.t 1)⟩,
 ⟨some 4,false,none,iCall (.c (.func (.func 21) [] [])) [(.t 3)]⟩,
 ⟨some 5,false,none,iCmp .eql (.t 4) (.c (.int .i64 (.lit 0)))⟩,
 ⟨some 6,false,none,iMov (.t 5)⟩,
 ⟨some 7,false,some (6,true),iFaddr 0 (.t 1)⟩,
 ⟨some 8,false,some (6,true),iLoadN 6 (.t 7)⟩,
 ⟨some 9,false,some (6,true),iCall (.c (.func (.func 22) [] [])) [(.t 8)]⟩,
 ⟨some 10,false,some (6,true),iCmp .eql (.t 9) (.c (.int .i64 (.lit 0)))⟩,
 ⟨some 11,false,none,iPick (.t 6) (.t 10) (.c (.bool (.lit false)))⟩,
 ⟨some 12,false,none,iMov (.t 11)⟩,
 ⟨some 13,false,some (12,true),iFaddr 0 (.t 1)⟩,
 ⟨some 14,false,some (12,true),iFaddr 0 (.t 13)⟩,
 ⟨some 15,false,some (12,true),iLoad (.t 14)⟩,
 ⟨some 16,false,some (12,true),iLenS (.t 15)⟩,
 ⟨some 17,false,some (12,true),iCall (.c (.func (.func 14) [] [])) [(.t 16),(.c (.int .i64 (.lit 1))),(.c (.int .i64 (.lit 6)))]⟩,
 ⟨some 18,false,none,iPick (.t 12) (.t 17) (.c (.bool (.lit false)))⟩,
 ⟨some 19,false,none,iMov (.t 18)⟩,
 ⟨some 20,false,some (19,true),iFaddr 6 (.t 1)⟩,
 ⟨some 21,false,some (19,true),iLoad (.t 20)⟩,
 ⟨some 22,false,some (19,true),iCall (.c (.func (.func 14) [] [])) [(.t 21),(.c (.int .i64 (.lit 0))),(.c (.int .i64 (.lit 998)))]⟩,
 ⟨some 23,false,none,iPick (.t 19) (.t 22) (.c (.bool (.lit false)))⟩,
 ⟨some 24,false,none,iMov (.t 23)⟩,
 ⟨some 25,false,some (24,true),iFaddr 7 (.t 1)⟩,
 ⟨some 26,false,some (24,true),iLoadN 2 (.t 25)⟩,
 ⟨some 27,false,some (24,true),iCall (.c (.func (.func 23) [] [])) [(.t 26),(.c (.int .i64 (.lit 0))),(.c (.int .i64 (.lit 3600)))]⟩,
 ⟨some 28,false,none,iPick (.t 24) (.t 27) (.c (.bool (.lit false)))⟩,
 ⟨some 29,false,none,iMov (.t 28)⟩,
 ⟨some 30,false,some (29,true),iFaddr 9 (.t 1)⟩,
 ⟨some 31,false,some (29,true),iLoadN 2 (.t 30)⟩,
 ⟨some 32,false,some (29,true),iCall (.c (.func (.func 23) [] [])) [(.t 31),(.c (.int .i64 (.lit 0))),(.c (.int .i64 (.lit 3600)))]⟩,
 ⟨some 33,false,none,iPick (.t 29) (.t 32) (.c (.bool (.lit false)))⟩,
 ⟨some 34,false,none,iMov (.t 33)⟩,
 ⟨some 35,false,some (34,true),iFaddr 11 (.t 1)⟩,
 ⟨some 36,false,some (34,true),iLoad (.t 35)⟩,
 ⟨some 37,false,some (34,true),iCall (.c (.func (.func 14) [] [])) [(.t 36),(.c (.int .i64 (.lit 1))),(.c (.int .i64 (.lit 6)))]⟩,
 ⟨some 38,false,none,iPick (.t 34) (.t 37) (.c (.bool (.lit false)))⟩,
 ⟨some 2,true,none,iMov (.t 38)⟩])
 cRet)),[.t 2]⟩
noncomputable def Tryd.kp8 : List Nat := [0,1,2,3,4,5,6,7,8,9,10,11,12,77]
noncomputable def Tryd.cf8 : CF := ⟨0,(cSeq (cOps [⟨some 0,true,none,iMov (.c (.bool (.lit false)))⟩])
 (cSeq (cOps [⟨some 14,false,none,iCall (.c (.func (.func 25) [] [])) []⟩,
 ⟨some 15,false,none,iBslice 3 [(.int .i64 (.lit 0))] 2 [(0,1,(.c (.int .i64 (.lit 1)))),(1,1,(.c (.int .i64 (.lit 2))))]⟩,
 ⟨some 16,false,none,iCall (.c (.func (.func 24) [] [])) [(.t 14),(.t 15)]⟩,
 ⟨some 13,false,none,iMov (.t 16)⟩,
 ⟨some 17,false,none,iExtract 0 (.t 13)⟩,
 ⟨some 18,false,none,iExtract 1 (.t 13)⟩,
 ⟨some 1,true,none,iMov (.t 17)⟩,
 ⟨some 2,true,none,iMov (.t 18)⟩])
 (cSeq (cOps [⟨some 20,false,none,iCall (.c (.func (.func 25) [] [])) []⟩,
 ⟨some 21,false,none,iBslice 3 [(.int .i64 (.lit 0))] 2 [(0,1,(.c (.int .i64 (.lit 1)))),(1,1,(.c (.int .i64 (.lit 2))))]⟩,
 ⟨some 22,false,none,iCall (.c (.func (.func 26) [] [])) [(.t 20),(.t 21)]⟩,
 ⟨some 19,false,none,iMov (.t 22)⟩,
 ⟨some 23,false,none,iExtract 0 (.t 19)⟩,
 ⟨some 24,false,none,iExtract 1 (.t 19)⟩,
 ⟨some 3,true,none,iMov (.t 23)⟩,
 ⟨some 4,true,none,iMov (.t 24)⟩])
 (cSeq (cOps [⟨some 26,false,none,iCall (.c (.func (.func 25) [] [])) []⟩,
 ⟨some 27,false,none,iBslice 3 [(.int .i64 (.lit 0))] 2 [(0,1,(.c (.int .i64 (.lit 1)))),(1,1,(.c (.int .i64 (.lit 2))))]⟩,
 ⟨some 28,false,none,iCall (.c (.func (.func 11) [] [])) [(.t 26),(.t 27)]⟩,
 ⟨some 25,false,none,iMov (.t 28)⟩,
 ⟨some 29,false,none,iExtract 0 (.t 25)⟩,
 ⟨some 30,false,none,iExtract 1 (.t 25)⟩,
 ⟨some 31,false,none,iExtract 2 (.t 25)⟩,
 ⟨some 5,true,none,iMov (.t 29)⟩,
 ⟨some 6,true,none,iMov (.t 30)⟩,
 ⟨some 7,true,none,iMov (.t 31)⟩])
 (cSeq (cOps [⟨some 33,false,none,iCall (.c (.func (.func 25) [] [])) []⟩,
 ⟨some 34,false,none,iBslice 3 [(.int .i64 (.lit 0))] 3 [(0,1,(.c (.int .i64 (.lit 1)))),(1,1,(.c (.int .i64 (.lit 1)))),(2,1,(.c (.int .i64 (.lit 1))))]⟩,
 ⟨some 35,false,none,iCall (.c (.func (.func 27) [] [])) [(.t 33),(.t 34),(.c (.int .i64 (.lit 0)))]⟩,
 ⟨some 32,false,none,iMov (.t 35)⟩,
 ⟨some 36,false,none,iExtract 0 (.t 32)⟩,
 ⟨some 37,false,none,iExtract 1 (.t 32)⟩,
 ⟨some 8,true,none,iAlloc 24 [(.int .i64 (.lit 0)),(.int .i64 (.lit 0))]⟩,
 ⟨none,false,none,iStore 2 (.t 8) (.t 36)⟩,
 ⟨some 9,true,none,iMov (.t 37)⟩])
 (cSeq (cSeq (dOps 0 [⟨⟨some 38,false,none,iMov (.t 2)⟩,[2],false,0,0,none,[]⟩,
 ⟨⟨some 39,false,none,iCmp .neq (.t 38) (.c (.int .i64 (.lit 0)))⟩,[38],false,0,0,none,[]⟩,
 ⟨⟨some 40,false,none,iMov (.t 39)⟩,[39],false,0,0,none,[]⟩,
 ⟨⟨some 41,false,some (40,false),iMov (.t 4)⟩,[40,4],false,0,0,none,[]⟩,
 ⟨⟨some 42,false,some (40,false),iCmp .neq (.t 41) (.c (.int .i64 (.lit 0)))⟩,[40,41],false,0,0,none,[]⟩,
 ⟨⟨some 43,false,none,iPick (.t 40) (.c (.bool (.lit true))) (.t 42)⟩,[40,42],false,0,0,none,[]⟩,
 ⟨⟨some 44,false,none,iMov (.t 43)⟩,[43],false,0,0,none,[]⟩,
 ⟨⟨some 45,false,some (44,false),iMov (.t 7)⟩,[44,7],false,0,0,none,[]⟩,
 ⟨⟨some 46,false,some (44,false),iCmp .neq (.t 45) (.c (.int .i64 (.lit 0)))⟩,[44,45],false,0,0,none,[]⟩,
 ⟨⟨some 47,false,none,iPick (.t 44) (.c (.bool (.lit true))) (.t 46)⟩,[44,46],false,0,0,none,[]⟩,
 ⟨⟨some 48,false,none,iMov (.t 47)⟩,[47],false,0,0,none,[]⟩,
 ⟨⟨some 49,false,some (48,false),iMov (.t 9)⟩,[48,9],false,0,0,none,[]⟩,
 ⟨⟨some 50,false,some (48,false),iCmp .neq (.t 49) (.c (.int .i64 (.lit 0)))⟩,[48,49],false,0,0,none,[]⟩,
 ⟨⟨some 51,false,none,iPick (.t 48) (.c (.bool (.lit true))) (.t 50)⟩,[48,50],false,0,0,none,[]⟩,
 ⟨⟨some 52,false,none,iMov (.t 51)⟩,[51],false,0,0,none,[]⟩,
 ⟨⟨some 53,false,some (52,false),iMov (.t 1)⟩,[52,1],false,0,0,none,[]⟩,
 ⟨⟨some 54,false,some (52,false),iNot (.t 53)⟩,[52,53],false,0,0,none,[]⟩,
 ⟨⟨some 55,false,none,iPick (.t 52) (.c (.bool (.lit true))) (.t 54)⟩,[52,54],false,0,0,none,[]⟩,
 ⟨⟨some 56,false,none,iMov (.t 55)⟩,[55],false,0,0,none,[]⟩,
 ⟨⟨some 57,false,some (56,false),iMov (.t 3)⟩,[56,3],false,0,4,none,[]⟩,
 ⟨⟨some 58,false,some (56,false),iCall (.c (.func (.func 17) [] [])) [(.c (.int .i64 (.lit 9000))),(.c (.int .i64 (.lit 12000)))]⟩,[56],true,0,0,none,[]⟩,
 ⟨⟨some 59,false,some (56,false),iCall (.c (.func (.func 17) [] [])) [(.c (.int .i64 (.lit 17400))),(.c (.int .i64 (.lit 23200)))]⟩,[56],true,1,0,none,[]⟩,
 ⟨⟨some 60,false,some (56,false),iCall (.c (.func (.func 17) [] [])) [(.c (.int .i64 (.lit 17400))),(.c (.int .i64 (.lit 23200)))]⟩,[56],true,2,0,none,[]⟩,
 ⟨⟨some 61,false,some (56,false),iBslice 24 [(.int .i64 (.lit 0)),(.int .i64 (.lit 0))] 3 [(0,2,(.t 58)),(2,2,(.t 59)),(4,2,(.t 60))]⟩,[56,58,59,60],true,3,0,none,[]⟩,
 ⟨⟨some 62,false,some (56,false),iCall (.c (.func (.func 28) [] [])) [(.t 57),(.t 61)]⟩,[56,57,61],true,4,0,none,[]⟩,
 ⟨⟨some 63,false,some (56,false),iNot (.t 62)⟩,[56,62],false,5,5,none,[]⟩,
 ⟨⟨some 64,false,none,iPick (.t 56) (.c (.bool (.lit true))) (.t 63)⟩,[56,63],false,5,5,none,[]⟩,
 ⟨⟨some 65,false,none,iMov (.t 64)⟩,[64],false,5,5,none,[]⟩,
 ⟨⟨some 66,false,some (65,false),iMov (.t 5)⟩,[65,5],false,5,5,none,[]⟩,
 ⟨⟨some 67,false,some (65,false),iCmp .neq (.t 66) (.c (.int .i64 (.lit 1722)))⟩,[65,66],false,5,5,none,[]⟩,
 ⟨⟨some 68,false,none,iPick (.t 65) (.c (.bool (.lit true))) (.t 67)⟩,[65,67],false,5,5,none,[]⟩,
 ⟨⟨some 69,false,none,iMov (.t 68)⟩,[68],false,5,5,none,[]⟩,
 ⟨⟨some 70,false,some (69,false),iMov (.t 6)⟩,[69,6],false,5,5,none,[]⟩,
 ⟨⟨some 71,false,some (69,false),iCmp .neq (.t 70) (.c (.int .i64 (.lit 941)))⟩,[69,70],false,5,5,none,[]⟩,
 ⟨⟨some 72,false,none,iPick (.t 69) (.c (.bool (.lit true))) (.t 71)⟩,[69,71],false,5,5,none,[]⟩,
 ⟨⟨some 73,false,none,iMov (.t 72)⟩,[72],false,5,5,none,[]⟩,
 ⟨⟨some 74,false,some (73,false),iLoadN 2 (.t 8)⟩,[73,8],false,5,6,none,[]⟩,
 ⟨⟨some 75,false,some (73,false),iCall (.c (.func (.func 17) [] [])) [(.c (.int .i64 (.lit 24582))),(.c (.int .i64 (.lit 31176)))]⟩,[73],true,5,0,none,[]⟩,
 ⟨⟨some 76,false,some (73,false),iEq true true 2 [(0,.int),(1,.int)] (.t 74) (.t 75)⟩,[73,74,75],false,6,6,none,[]⟩,
 ⟨⟨some 77,true,none,iPick (.t 73) (.c (.bool (.lit true))) (.t 76)⟩,[73,76],false,6,6,none,[]⟩])
 (cCond (.t 77) (cSeq (cOps [⟨some 0,true,none,iMov (.c (.bool (.lit false)))⟩])
 cRet) cSkip))
 (cSeq (cOps [⟨some 79,false,none,iCall (.c (.func (.func 25) [] [])) []⟩,
 ⟨some 80,false,none,iCall (.c (.func (.func 6) [] [])) [(.t 79)]⟩,
 ⟨some 78,false,none,iMov (.t 80)⟩,
 ⟨some 81,false,none,iExtract 0 (.t 78)⟩,
 ⟨some 82,false,none,iExtract 1 (.t 78)⟩,
 ⟨some 10,true,none,iMov (.t 81)⟩,
 ⟨some 2,true,none,iMov (.t 82)⟩])
 (cSeq (cOps [⟨some 84,false,none,iCall (.c (.func (.func 25) [] [])) []⟩,
 ⟨some 85,false,none,iCall (.c (.func (.func 15) [] [])) [(.t 84),(.c (.int .i64 (.lit 1722)))]⟩,
 ⟨some 83,false,none,iMov (.t 85)⟩,
 ⟨some 86,false,none,iExtract 0 (.t 83)⟩,
 ⟨some 87,false,none,iExtract 1 (.t 83)⟩,
 ⟨some 11,true,none,iMov (.t 86)⟩,
 ⟨some 4,true,none,iMov (.t 87)⟩])
 (cSeq (cOps [⟨some 89,false,none,iCall (.c (.func (.func 29) [] [])) []⟩,
 ⟨some 90,false,none,iCall (.c (.func (.func 16) [] [])) [(.t 89),(.c (.int .i64 (.lit 3000)))]⟩,
 ⟨some 88,false,none,iMov (.t 90)⟩,
 ⟨some 91,false,none,iExtract 0 (.t 88)⟩,
 ⟨some 92,false,none,iExtract 1 (.t 88)⟩,
 ⟨some 12,true,none,iMov (.t 91)⟩,
 ⟨some 7,true,none,iMov (.t 92)⟩])
 (cSeq (cOps [⟨some 93,false,none,iMov (.t 2)⟩,
 ⟨some 94,false,none,iCmp .eql (.t 93) (.c (.int .i64 (.lit 0)))⟩,
 ⟨some 95,false,none,iMov (.t 94)⟩,
 ⟨some 96,false,some (95,true),iMov (.t 4)⟩,
 ⟨some 97,false,some (95,true),iCmp .eql (.t 96) (.c (.int .i64 (.lit 0)))⟩,
 ⟨some 98,false,none,iPick (.t 95) (.t 97) (.c (.bool (.lit false)))⟩,
 ⟨some 99,false,none,iMov (.t 98)⟩,
 ⟨some 100,false,some (99,true),iMov (.t 7)⟩,
 ⟨some 101,false,some (99,true),iCmp .eql (.t 100) (.c (.int .i64 (.lit 0)))⟩,
 ⟨some 102,false,none,iPick (.t 99) (.t 101) (.c (.bool (.lit false)))⟩,
 ⟨some 103,false,none,iMov (.t 102)⟩,
 ⟨some 104,false,some (103,true),iMov (.t 10)⟩,
 ⟨some 105,false,some (103,true),iBslice 3 [(.int .i64 (.lit 0))] 3 [(0,1,(.c (.int .i64 (.lit 1)))),(1,1,(.c (.int .i64 (.lit 1)))),(2,1,(.c (.int .i64 (.lit 1))))]⟩,
 ⟨some 106,false,some (103,true),iCall (.c (.func (.func 30) [] [])) [(.t 104),(.t 105)]⟩,
 ⟨some 107,false,none,iPick (.t 103) (.t 106) (.c (.bool (.lit false)))⟩,
 ⟨some 108,false,none,iMov (.t 107)⟩,
 ⟨some 109,false,some (108,true),iMov (.t 11)⟩,
 ⟨some 110,false,some (108,true),iBslice 3 [(.int .i64 (.lit 0))] 2 [(0,1,(.c (.int .i64 (.lit 1)))),(1,1,(.c (.int .i64 (.lit 2))))]⟩,
 ⟨some 111,false,some (108,true),iCall (.c (.func (.func 30) [] [])) [(.t 109),(.t 110)]⟩,
 ⟨some 112,false,none,iPick (.t 108) (.t 111) (.c (.bool (.lit false)))⟩,
 ⟨some 113,false,none,iMov (.t 112)⟩,
 ⟨some 114,false,some (113,true),iMov (.t 12)⟩,
 ⟨some 115,false,some (113,true),iCmp .eql (.t 114) (.c (.int .i64 (.lit 3)))⟩,
 ⟨some 116,false,none,iPick (.t 113) (.t 115) (.c (.bool (.lit false)))⟩,
 ⟨some 0,true,none,iMov (.t 116)⟩])
 cRet)))))))))),[.t 0]⟩
noncomputable def Tryd.kp9 : List Nat := [0,1,2,4,5,6,25]
noncomputable def Tryd.cf9 : CF := ⟨2,(cSeq (cOps [⟨some 2,true,none,iBox 28 (.t 0)⟩,
 ⟨some 4,true,none,iMov (.c (.bool (.lit false)))⟩])
 (cSeq (cOps [⟨some 7,false,none,iMov (.t 1)⟩,
 ⟨some 8,false,none,iLenS (.t 7)⟩,
 ⟨some 9,false,none,iCmp .gtr (.t 8) (.c (.int .i64 (.lit 0)))⟩,
 ⟨some 10,false,none,iMov (.t 9)⟩,
 ⟨some 11,false,some (10,true),iMov (.t 1)⟩,
 ⟨some 12,false,some (10,true),iLenS (.t 11)⟩,
 ⟨some 13,false,some (10,true),iFaddr 0 (.t 2)⟩,
 ⟨some 14,false,some (10,true),iFaddr 0 (.t 13)⟩,
 ⟨some 15,false,some (10,true),iLoad (.t 14)⟩,
 ⟨some 16,false,some (10,true),iLenS (.t 15)⟩,
 ⟨some 17,false,some (10,true),iCmp .leq (.t 12) (.t 16)⟩,
 ⟨some 18,false,none,iPick (.t 10) (.t 17) (.c (.bool (.lit false)))⟩,
 ⟨some 5,true,none,iMov (.t 18)⟩])
 (cSeq (cSeq (cOps [⟨some 6,true,none,iMov (.c (.int .i64 (.lit 0)))⟩])
 (cBlock 0 (cLoop (cSeq (cSeq (cOps [⟨some 19,false,none,iMov (.t 5)⟩,
 ⟨some 20,false,none,iMov (.t 19)⟩,
 ⟨some 21,false,some (20,true),iMov (.t 6)⟩,
 ⟨some 22,false,some (20,true),iMov (.t 1)⟩,
 ⟨some 23,false,some (20,true),iLenS (.t 22)⟩,
 ⟨some 24,false,some (20,true),iCmp .lss (.t 21) (.t 23)⟩,
 ⟨some 25,true,none,iPick (.t 20) (.t 24) (.c (.bool (.lit false)))⟩])
 (cCond (.t 25) cSkip (cExit 0)))
 (cSeq (cBlock 1 (dOps 0 [⟨⟨some 28,false,none,iMov (.t 1)⟩,[1],false,0,0,none,[]⟩,
 ⟨⟨some 29,false,none,iMov (.t 6)⟩,[6],false,0,0,none,[]⟩,
 ⟨⟨some 30,false,none,iIaddr 1 (.t 28) (.t 29)⟩,[28,29],false,0,0,none,[]⟩,
 ⟨⟨some 31,false,none,iLoad (.t 30)⟩,[30],false,0,0,none,[]⟩,
 ⟨⟨some 32,false,none,iFaddr 11 (.t 2)⟩,[2],false,0,0,none,[]⟩,
 ⟨⟨some 33,false,none,iLoad (.t 32)⟩,[32],false,0,0,none,[]⟩,
 ⟨⟨some 34,false,none,iCall (.c (.func (.func 14) [] [])) [(.t 31),(.c (.int .i64 (.lit 1))),(.t 33)]⟩,[31,33],true,0,0,none,[]⟩,
 ⟨⟨some 5,true,none,iMov (.t 34)⟩,[34],false,1,1,none,[]⟩]))
 (cOps [⟨some 26,false,none,iMov (.t 6)⟩,
 ⟨some 27,false,none,iArith .add (.t 26) (.c (.int .i64 (.lit 1)))⟩,
 ⟨some 6,true,none,iMov (.t 27)⟩]))))))
 (cSeq (dOps 0 [⟨⟨some 35,false,none,iMov (.t 5)⟩,[5],false,0,0,none,[]⟩,
 ⟨⟨some 36,false,none,iMov (.t 35)⟩,[35],false,0,0,none,[]⟩,
 ⟨⟨some 37,false,some (36,true),iMov (.t 1)⟩,[36,1],false,0,0,none,[]⟩,
 ⟨⟨some 38,false,some (36,true),iCall (.c (.func (.func 31) [] [])) [(.t 37)]⟩,[36,37],true,0,0,none,[]⟩,
 ⟨⟨some 39,false,some (36,true),iFaddr 0 (.t 2)⟩,[36,2],false,0,1,none,[]⟩,
 ⟨⟨some 40,false,some (36,true),iFaddr 0 (.t 39)⟩,[36,39],false,0,1,none,[]⟩,
 ⟨⟨some 41,false,some (36,true),iLoad (.t 40)⟩,[36,40],false,0,1,none,[]⟩,
 ⟨⟨some 42,false,some (36,true),iLenS (.t 41)⟩,[36,41],false,0,1,none,[]⟩,
 ⟨⟨some 43,false,some (36,true),iCmp .eql (.t 38) (.t 42)⟩,[36,38,42],false,1,1,none,[]⟩,
 ⟨⟨some 44,false,none,iPick (.t 36) (.t 43) (.c (.bool (.lit false)))⟩,[36,43],false,1,1,none,[]⟩,
 ⟨⟨some 4,true,none,iMov (.t 44)⟩,[44],false,1,1,none,[]⟩])
 cRet)))),[.t 4]⟩
noncomputable def Tryd.kp10 : List Nat := [0,1,2,4,5,6,7,13]
noncomputable def Tryd.cf10 : CF := ⟨2,(cSeq (cOps [⟨some 2,true,none,iBox 28 (.t 0)⟩,
 ⟨some 4,true,none,iMov (.c .nilslice)⟩])
 (cSeq (cOps [⟨some 5,true,none,iMov (.c .nilslice)⟩])
 (cSeq (cSeq (cOps [⟨some 8,false,none,iFaddr 0 (.t 2)⟩,
 ⟨some 9,false,none,iFaddr 0 (.t 8)⟩,
 ⟨some 10,false,none,iLoad (.t 9)⟩,
 ⟨some 11,false,none,iLenS (.t 10)⟩,
 ⟨some 6,true,none,iMov (.t 11)⟩])
 (cBlock 0 (cLoop (cSeq (cSeq (cOps [⟨some 12,false,none,iMov (.t 6)⟩,
 ⟨some 13,true,none,iCmp .gtr (.t 12) (.c (.int .i64 (.lit 0)))⟩])
 (cCond (.t 13) cSkip (cExit 0)))
 (cBlock 1 (cSeq (dOps 0 [⟨⟨some 14,false,none,iMov (.t 1)⟩,[1],false,0,0,none,[]⟩,
 ⟨⟨some 15,false,none,iMov (.t 5)⟩,[5],false,0,0,none,[]⟩,
 ⟨⟨some 16,false,none,iLenS (.t 15)⟩,[15],false,0,0,none,[]⟩,
 ⟨⟨some 17,false,none,iCall (.c (.func (.func 32) [] [])) [(.t 14),(.t 16)]⟩,[14,16],true,0,0,none,[]⟩,
 ⟨⟨some 18,false,none,iMov (.t 6)⟩,[6],false,0,1,none,[]⟩,
 ⟨⟨some 19,false,none,iFaddr 11 (.t 2)⟩,[2],false,0,1,none,[]⟩,
 ⟨⟨some 20,false,none,iLoad (.t 19)⟩,[19],false,0,1,none,[]⟩,
 ⟨⟨some 21,false,none,iMin [(.t 18),(.t 20)]⟩,[18,20],false,0,1,none,[]⟩,
 ⟨⟨some 22,false,none,iCall (.c (.func (.func 13) [] [])) [(.t 17),(.t 21)]⟩,[17,21],true,1,0,none,[]⟩,
 ⟨⟨some 23,false,none,iArith .add (.c (.int .i64 (.lit 1))) (.t 22)⟩,[22],false,2,2,none,[]⟩,
 ⟨⟨some 7,true,none,iMov (.t 23)⟩,[23],false,2,2,none,[]⟩])
 (cOps [⟨some 24,false,none,iMov (.t 5)⟩,
 ⟨some 25,false,none,iMov (.t 7)⟩,
 ⟨some 26,false,none,iBslice 3 [(.int .i64 (.lit 0))] 1 [(0,1,(.t 25))]⟩,
 ⟨some 27,false,none,iAppend 3 1 8 (.t 24) (.t 26)⟩,
 ⟨some 28,false,none,iMov (.t 6)⟩,
 ⟨some 29,false,none,iMov (.t 7)⟩,
 ⟨some 30,false,none,iArith .sub (.t 28) (.t 29)⟩,
 ⟨some 5,true,none,iMov (.t 27)⟩,
 ⟨some 6,true,none,iMov (.t 30)⟩])))))))
 (cSeq (cOps [⟨some 31,false,none,iMov (.t 5)⟩,
 ⟨some 4,true,none,iMov (.t 31)⟩])
 cRet)))),[.t 4]⟩
noncomputable def Tryd.kp11 : List Nat := [0,1,2,4,5,6,7,15]
noncomputable def Tryd.cf11 : CF := ⟨2,(cSeq (cOps [⟨some 2,true,none,iBox 28 (.t 0)⟩,
 ⟨some 4,true,none,iMov (.c (.int .i64 (.lit 0)))⟩,
 ⟨some 5,true,none,iMov (.c (.int .i64 (.lit 0)))⟩,
 ⟨some 6,true,none,iMov (.c (.int .i64 (.lit 0)))⟩])
 (cSeq (cOps [⟨some 9,false,none,iLoadN 12 (.t 2)⟩,
 ⟨some 10,false,none,iMov (.t 1)⟩,
 ⟨some 11,false,none,iCall (.c (.func (.func 33) [] [])) [(.t 9),(.t 10),(.c .nilslice)]⟩,
 ⟨some 8,false,none,iMov (.t 11)⟩,
 ⟨some 12,false,none,iExtract 0 (.t 8)⟩,
 ⟨some 13,false,none,iExtract 1 (.t 8)⟩,
 ⟨some 7,true,none,iAlloc 52 [.nilslice,(.int .i64 (.lit 0)),(.int .i64 (.lit 0)),(.int .i64 (.lit 0)),(.int .i64 (.lit 0)),(.int .i64 (.lit 0)),(.int .i64 (.lit 0)),(.int .i64 (.lit 0)),(.int .i64 (.lit 0)),(.int .i64 (.lit 0)),(.int .i64 (.lit 0)),(.int .i64 (.lit 0)),.nilslice,.nilmap]⟩,
 ⟨none,false,none,iStore 14 (.t 7) (.t 12)⟩,
 ⟨some 6,true,none,iMov (.t 13)⟩])
 (cSeq (cSeq (cOps [⟨some 14,false,none,iMov (.t 6)⟩,
 ⟨some 15,true,none,iCmp .neq (.t 14) (.c (.int .i64 (.lit 0)))⟩])
 (cCond (.t 15) (cSeq (cOps [⟨some 16,false,none,iMov (.t 6)⟩,
 ⟨some 4,true,none,iMov (.c (.int .i64 (.lit 0)))⟩,
 ⟨some 5,true,none,iMov (.c (.int .i64 (.lit 0)))⟩,
 ⟨some 6,true,none,iMov (.t 16)⟩])
 cRet) cSkip))
 (cSeq (dOps 0 [⟨⟨some 17,false,none,iLoadN 14 (.t 7)⟩,[7],false,0,0,none,[]⟩,
 ⟨⟨some 18,false,none,iMov (.t 1)⟩,[1],false,0,0,none,[]⟩,
 ⟨⟨some 19,false,none,iCall (.c (.func (.func 34) [] [])) [(.t 17),(.t 18)]⟩,[17,18],true,0,0,none,[]⟩,
 ⟨⟨some 20,false,none,iLoadN 14 (.t 7)⟩,[7],false,0,1,none,[]⟩,
 ⟨⟨some 21,false,none,iMov (.t 1)⟩,[1],false,0,1,none,[]⟩,
 ⟨⟨some 22,false,none,iCall (.c (.func (.func 35) [] [])) [(.t 20),(.t 21)]⟩,[20,21],true,1,0,none,[]⟩,
 ⟨⟨some 4,true,none,iMov (.t 19)⟩,[19],false,2,2,none,[]⟩,
 ⟨⟨some 5,true,none,iMov (.t 22)⟩,[22],false,2,2,none,[]⟩,
 ⟨⟨some 6,true,none,iMov (.c (.int .i64 (.lit 0)))⟩,[],false,2,2,none,[]⟩])
 cRet)))),[.t 4,.t 5,.t 6]⟩
noncomputable def Tryd.kp12 : List Nat := [0,1,4,5,15,26]
noncomputable def Tryd.cf12 : CF := ⟨2,(cSeq (cOps [⟨some 4,true,none,iMov (.c (.bool (.lit false)))⟩])
 (cSeq (cSeq (cOps [⟨some 5,true,none,iMov (.c (.int .i64 (.lit 0)))⟩])
 (cBlock 0 (cLoop (cSeq (cSeq (cOps [⟨some 6,false,none,iMov (.t 5)⟩,
 ⟨some 7,false,none,iMov (.t 0)⟩,
 ⟨some 8,false,none,iLenS (.t 7)⟩,
 ⟨some 9,false,none,iCmp .lss (.t 6) (.t 8)⟩,
 ⟨some 10,false,none,iMov (.t 9)⟩,
 ⟨some 11,false,some (10,true),iMov (.t 5)⟩,
 ⟨some 12,false,some (10,true),iMov (.t 1)⟩,
 ⟨some 13,false,some (10,true),iLenS (.t 12)⟩,
 ⟨some 14,false,some (10,true),iCmp .lss (.t 11) (.t 13)⟩,
 ⟨some 15,true,none,iPick (.t 10) (.t 14) (.c (.bool (.lit false)))⟩])
 (cCond (.t 15) cSkip (cExit 0)))
 (cSeq (cBlock 1 (cSeq (dOps 0 [⟨⟨some 18,false,none,iMov (.t 0)⟩,[0],false,0,0,none,[]⟩,
 ⟨⟨some 19,false,none,iMov (.t 5)⟩,[5],false,0,0,none,[]⟩,
 ⟨⟨some 20,false,none,iIaddr 1 (.t 18) (.t 19)⟩,[18,19],false,0,0,none,[]⟩,
 ⟨⟨some 21,false,none,iLoad (.t 20)⟩,[20],false,0,0,none,[]⟩,
 ⟨⟨some 22,false,none,iMov (.t 1)⟩,[1],false,0,0,none,[]⟩,
 ⟨⟨some 23,false,none,iMov (.t 5)⟩,[5],false,0,0,none,[]⟩,
 ⟨⟨some 24,false,none,iIaddr 1 (.t 22) (.t 23)⟩,[22,23],false,0,0,none,[]⟩,
 ⟨⟨some 25,false,none,iLoad (.t 24)⟩,[24],false,0,0,none,[]⟩,
 ⟨⟨some 26,true,none,iCmp .neq (.t 21) (.t 25)⟩,[21,25],false,0,0,none,[]⟩])
 (cCond (.t 26) (cSeq (dOps 0 [⟨⟨some 27,false,none,iMov (.t 0)⟩,[0],false,0,0,none,[]⟩,
 ⟨⟨some 28,false,none,iMov (.t 5)⟩,[5],false,0,0,none,[]⟩,
 ⟨⟨some 29,false,none,iIaddr 1 (.t 27) (.t 28)⟩,[27,28],false,0,0,none,[]⟩,
 ⟨⟨some 30,false,none,iLoad (.t 29)⟩,[29],false,0,0,none,[]⟩,
 ⟨⟨some 31,false,none,iMov (.t 1)⟩,[1],false,0,0,none,[]⟩,
 ⟨⟨some 32,false,none,iMov (.t 5)⟩,[5],false,0,0,none,[]⟩,
 ⟨⟨some 33,false,none,iIaddr 1 (.t 31) (.t 32)⟩,[31,32],false,0,0,none,[]⟩,
 ⟨⟨some 34,false,none,iLoad (.t 33)⟩,[33],false,0,0,none,[]⟩,
 ⟨⟨some 35,false,none,iCmp .lss (.t 30) (.t 34)⟩,[30,34],false,0,0,none,[]⟩,
 ⟨⟨some 4,true,none,iMov (.t 35)⟩,[35],false,0,0,none,[]⟩])
 cRet) cSkip)))
 (cOps [⟨some 16,false,none,iMov (.t 5)⟩,
 ⟨some 17,false,none,iArith .add (.t 16) (.c (.int .i64 (.lit 1)))⟩,
 ⟨some 5,true,none,iMov (.t 17)⟩]))))))
 (cSeq (cOps [⟨some 36,false,none,iMov (.t 0)⟩,
 ⟨some 37,false,none,iLenS (.t 36)⟩,
 ⟨some 38,false,none,iMov (.t 1)⟩,
 ⟨some 39,false,none,iLenS (.t 38)⟩,
 ⟨some 40,false,none,iCmp .lss (.t 37) (.t 39)⟩,
 ⟨some 4,true,none,iMov (.t 40)⟩])
 cRet))),[.t 4]⟩
noncomputable def Tryd.kp13 : List Nat := [0,1,4,5,7,12]
noncomputable def Tryd.cf13 : CF := ⟨2,(cSeq (cOps [⟨some 4,true,none,iMov (.c (.int .i64 (.lit 0)))⟩])
 (cSeq (cSeq (cOps [⟨some 6,false,none,iMov (.t 1)⟩,
 ⟨some 7,true,none,iCmp .lss (.t 6) (.c (.int .i64 (.lit 1)))⟩])
 (cCond (.t 7) (cSeq (cOps [⟨some 4,true,none,iMov (.c (.int .i64 (.lit 0)))⟩])
 cRet) cSkip))
 (cSeq (cOps [⟨some 8,false,none,iMov (.t 0)⟩,
 ⟨some 9,false,none,iMov (.t 1)⟩,
 ⟨some 10,false,none,iArith .rem (.t 8) (.t 9)⟩,
 ⟨some 5,true,none,iMov (.t 10)⟩])
 (cSeq (cSeq (cOps [⟨some 11,false,none,iMov (.t 5)⟩,
 ⟨some 12,true,none,iCmp .lss (.t 11) (.c (.int .i64 (.lit 0)))⟩])
 (cCond (.t 12) (cOps [⟨some 13,false,none,iMov (.t 5)⟩,
 ⟨some 14,false,none,iMov (.t 1)⟩,
 ⟨some 15,false,none,iArith .add (.t 13) (.t 14)⟩,
 ⟨some 5,true,none,iMov (.t 15)⟩]) cSkip))
 (cSeq (cOps [⟨some 16,false,none,iMov (.t 5)⟩,
 ⟨some 4,true,none,iMov (.t 16)⟩])
 cRet))))),[.t 4]⟩
noncomputable def Tryd.kp14 : List Nat := [0,1,2,6]
noncomputable def Tryd.cf14 : CF := ⟨3,(cSeq (cOps [⟨some 6,true,none,iMov (.c (.bool (.lit false)))⟩])
 (cSeq (cOps [⟨some 7,false,none,iMov (.t 0)⟩,
 ⟨some 8,false,none,iMov (.t 1)⟩,
 ⟨some 9,false,none,iCmp .geq (.t 7) (.t 8)⟩,
 ⟨some 10,false,none,iMov (.t 9)⟩,
 ⟨some 11,false,some (10,true),iMov (.t 0)⟩,
 ⟨some 12,false,some (10,true),iMov (.t 2)⟩,
 ⟨some 13,false,some (10,true),iCmp .leq (.t 11) (.t 12)⟩,
 ⟨some 14,false,none,iPick (.t 10) (.t 13) (.c (.bool (.lit false)))⟩,
 ⟨some 6,true,none,iMov (.t 14)⟩])
 cRet)),[.t 6]⟩
noncomputable def Tryd.kp15 : List Nat := [0,1,2,4,5,6,7,15]
noncomputable def Tryd.cf15 : CF := ⟨2,(cSeq (cOps [⟨some 2,true,none,iBox 28 (.t 0)⟩,
 ⟨some 4,true,none,iMov (.c .nilslice)⟩,
 ⟨some 5,true,none,iMov (.c (.int .i64 (.lit 0)))⟩])
 (cSeq (cOps [⟨some 9,false,none,iLoadN 12 (.t 2)⟩,
 ⟨some 10,false,none,iMov (.t 1)⟩,
 ⟨some 11,false,none,iCall (.c (.func (.func 36) [] [])) [(.t 9),(.t 10)]⟩,
 ⟨some 8,false,none,iMov (.t 11)⟩,
 ⟨some 12,false,none,iExtract 0 (.t 8)⟩,
 ⟨some 13,false,none,iExtract 1 (.t 8)⟩,
 ⟨some 6,true,none,iAlloc 52 [.nilslice,(.int .i64 (.lit 0)),(.int .i64 (.lit 0)),(.int .i64 (.lit 0)),(.int .i64 (.lit 0)),(.int .i64 (.lit 0)),(.int .i64 (.lit 0)),(.int .i64 (.lit 0)),(.int .i64 (.lit 0)),(.int .i64 (.lit 0)),(.int .i64 (.lit 0)),(.int .i64 (.lit 0)),.nilslice,.nilmap]⟩,
 ⟨none,false,none,iStore 14 (.t 6) (.t 12)⟩,
 ⟨some 7,true,none,iMov (.t 13)⟩])
 (cSeq (cSeq (cOps [⟨some 14,false,none,iMov (.t 7)⟩,
 ⟨some 15,true,none,iCmp .neq (.t 14) (.c (.int .i64 (.lit 0)))⟩])
 (cCond (.t 15) (cSeq (cOps [⟨some 16,false,none,iMov (.t 7)⟩,
 ⟨some 4,true,none,iMov (.c .nilslice)⟩,
 ⟨some 5,true,none,iMov (.t 16)⟩])
 cRet) cSkip))
 (cSeq (cOps [⟨some 17,false,none,iLoadN 14 (.t 6)⟩,
 ⟨some 18,false,none,iMov (.t 1)⟩,
 ⟨some 19,false,none,iBuild [(.int .i64 (.lit 0)),.nilFunc] [(0,1,(.t 18)),(1,1,(.c (.func (.func 37) [] [])))]⟩,
 ⟨some 20,false,none,iCall (.c (.func (.func 19) [] [])) [(.t 17),(.t 19)]⟩,
 ⟨some 21,false,none,iExtract 0 (.t 20)⟩,
 ⟨some 22,false,none,iExtract 1 (.t 20)⟩,
 ⟨some 4,true,none,iMov (.t 21)⟩,
 ⟨some 5,true,none,iMov (.t 22)⟩])
 cRet)))),[.t 4,.t 5]⟩
noncomputable def Tryd.kp16 : List Nat := [0,1,2,4,5,6,7,15]
noncomputable def Tryd.cf16 : CF := ⟨2,(cSeq (cOps [⟨some 2,true,none,iBox 28 (.t 0)⟩,
 ⟨some 4,true,none,iMov (.c (.int .i64 (.lit 0)))⟩,
 ⟨some 5,true,none,iMov (.c (.int .i64 (.lit 0)))⟩])
 (cSeq (cOps [⟨some 9,false,none,iLoadN 12 (.t 2)⟩,
 ⟨some 10,false,none,iMov (.t 1)⟩,
 ⟨some 11,false,none,iCall (.c (.func (.func 36) [] [])) [(.t 9),(.t 10)]⟩,
 ⟨some 8,false,none,iMov (.t 11)⟩,
 ⟨some 12,false,none,iExtract 0 (.t 8)⟩,
 ⟨some 13,false,none,iExtract 1 (.t 8)⟩,
 ⟨some 6,true,none,iAlloc 52 [.nilslice,(.int .i64 (.lit 0)),(.int .i64 (.lit 0)),(.int .i64 (.lit 0)),(.int .i64 (.lit 0)),(.int .i64 (.lit 0)),(.int .i64 (.lit 0)),(.int .i64 (.lit 0)),(.int .i64 (.lit 0)),(.int .i64 (.lit 0)),(.int .i64 (.lit 0)),(.int .i64 (.lit 0)),.nilslice,.nilmap]⟩,
 ⟨none,false,none,iStore 14 (.t 6) (.t 12)⟩,
 ⟨some 7,true,none,iMov (.t 13)⟩])
 (cSeq (cSeq (cOps [⟨some 14,false,none,iMov (.t 7)⟩,
 ⟨some 15,true,none,iCmp .neq (.t 14) (.c (.int .i64 (.lit 0)))⟩])
 (cCond (.t 15) (cSeq (cOps [⟨some 16,false,none,iMov (.t 7)⟩,
 ⟨some 4,true,none,iMov (.c (.int .i64 (.lit 0)))⟩,
 ⟨some 5,true,none,iMov (.t 16)⟩])
 cRet) cSkip))
 (cSeq (cOps [⟨some 17,false,none,iLoadN 14 (.t 6)⟩,
 ⟨some 18,false,none,iMov (.t 1)⟩,
 ⟨some 19,false,none,iCall (.c (.func (.func 38) [] [])) [(.t 17),(.t 18)]⟩,
 ⟨some 20,false,none,iExtract 0 (.t 19)⟩,
 ⟨some 21,false,none,iExtract 1 (.t 19)⟩,
 ⟨some 4,true,none,iMov (.t 20)⟩,
 ⟨some 5,true,none,iMov (.t 21)⟩])
 cRet)))),[.t 4,.t 5]⟩
noncomputable def Tryd.kp17 : List Nat := [0,1,4]
noncomputable def Tryd.cf17 : CF := ⟨2,(cSeq (cOps [⟨some 4,true,none,iAlloc 24 [(.int .i64 (.lit 0)),(.int .i64 (.lit 0))]⟩])
 (cSeq (cOps [⟨some 5,false,none,iMov (.t 0)⟩,
 ⟨some 6,false,none,iMov (.t 1)⟩,
 ⟨some 7,false,none,iBuild [(.int .i64 (.lit 0)),(.int .i64 (.lit 0))] [(0,1,(.t 5)),(1,1,(.t 6))]⟩,
 ⟨none,false,none,iStore 2 (.t 4) (.t 7)⟩])
 cRet)),[.cell 4 true 2]⟩
noncomputable def Tryd.kp18 : List Nat := [0,1,2,3,4,5,18]
noncomputable def Tryd.cf18 : CF := ⟨1,(cSeq (cOps [⟨some 1,true,none,iBox 28 (.t 0)⟩,
 ⟨some 2,true,none,iAlloc 52 [.nilslice,(.int .i64 (.lit 0)),(.int .i64 (.lit 0)),(.int .i64 (.lit 0)),(.int .i64 (.lit 0)),(.int .i64 (.lit 0)),(.int .i64 (.lit 0)),(.int .i64 (.lit 0)),(.int .i64 (.lit 0)),(.int .i64 (.lit 0)),(.int .i64 (.lit 0)),(.int .i64 (.lit 0)),.nilslice,.nilmap]⟩,
 ⟨some 3,true,none,iMov (.c (.int .i64 (.lit 0)))⟩])
 (cSeq (cOps [⟨some 7,false,none,iFaddr 0 (.t 1)⟩,
 ⟨some 8,false,none,iLoadN 6 (.t 7)⟩,
 ⟨some 9,false,none,iCall (.c (.func (.func 39) [] [])) [(.t 8)]⟩,
 ⟨some 6,false,none,iMov (.t 9)⟩,
 ⟨some 10,false,none,iExtract 0 (.t 6)⟩,
 ⟨some 11,false,none,iExtract 1 (.t 6)⟩,
 ⟨some 4,true,none,iMov (.t 10)⟩,
 ⟨some 5,true,none,iMov (.t 11)⟩])
 (cSeq (cSeq (cOps [⟨some 12,false,none,iMov (.t 5)⟩,
 ⟨some 13,false,none,iCmp .neq (.t 12) (.c (.int .i64 (.lit 0)))⟩,
 ⟨some 14,false,none,iMov (.t 13)⟩,
 ⟨some 15,false,some (14,false),iLoadN 12 (.t 1)⟩,
 ⟨some 16,false,some (14,false),iCall (.c (.func (.func 40) [] [])) [(.t 15)]⟩,
 ⟨some 17,false,some (14,false),iNot (.t 16)⟩,
 ⟨some 18,true,none,iPick (.t 14) (.c (.bool (.lit true))) (.t 17)⟩])
 (cCond (.t 18) (cSeq (cOps [⟨some 19,false,none,iBuild [.nilslice,(.int .i64 (.lit 0)),(.int .i64 (.lit 0)),(.int .i64 (.lit 0)),(.int .i64 (.lit 0)),(.int .i64 (.lit 0)),(.int .i64 (.lit 0)),(.int .i64 (.lit 0)),(.int .i64 (.lit 0)),(.int .i64 (.lit 0)),(.int .i64 (.lit 0)),(.int .i64 (.lit 0)),.nilslice,.nilmap] []⟩,
 ⟨none,false,none,iStore 14 (.t 2) (.t 19)⟩,
 ⟨some 3,true,none,iMov (.c (.int .i64 (.lit 80)))⟩])
 cRet) cSkip))
 (cSeq (cOps [⟨some 20,false,none,iLoadN 12 (.t 1)⟩,
 ⟨some 21,false,none,iMov (.t 4)⟩,
 ⟨some 22,false,none,iMkmap⟩,
 ⟨some 23,false,none,iBuild [.nilslice,(.int .i64 (.lit 0)),(.int .i64 (.lit 0)),(.int .i64 (.lit 0)),(.int .i64 (.lit 0)),(.int .i64 (.lit 0)),(.int .i64 (.lit 0)),(.int .i64 (.lit 0)),(.int .i64 (.lit 0)),(.int .i64 (.lit 0)),(.int .i64 (.lit 0)),(.int .i64 (.lit 0)),.nilslice,.nilmap] [(0,12,(.t 20)),(12,1,(.t 21)),(13,1,(.t 22))]⟩,
 ⟨none,false,none,iStore 14 (.t 2) (.t 23)⟩,
 ⟨some 3,true,none,iMov (.c (.int .i64 (.lit 0)))⟩])
 cRet)))),[.cell 2 true 14,.t 3]⟩
noncomputable def Tryd.ra19011 : C := (cOps [⟨some 7,true,none,iMov (.t 11)⟩])
noncomputable def Tryd.rb19011 : C := (cBlock 1 (cSeq (cOps [⟨some 12,false,none,iMov (.t 7)⟩,
 ⟨some 13,false,none,iLoadN 14 (.t 2)⟩,
 ⟨some 14,false,none,iMov (.t 7)⟩,
 ⟨some 15,false,none,iCall (.c (.func (.func 34) [] [])) [(.t 13),(.t 14)]⟩,
 ⟨some 16,false,none,iBuild [.nilslice,(.int .i64 (.lit 0))] [(0,1,(.t 12)),(1,1,(.t 15))]⟩,
 ⟨some 8,true,none,iAlloc 78 [.nilslice,(.int .i64 (.lit 0))]⟩,
 ⟨none,false,none,iStore 2 (.t 8) (.t 16)⟩])
 (cSeq (cSeq (cOps [⟨some 17,false,none,iFaddr 1 (.t 8)⟩,
 ⟨some 18,false,none,iLoad (.t 17)⟩,
 ⟨some 19,false,none,iFaddr 0 (.t 3)⟩,
 ⟨some 20,false,none,iLoad (.t 19)⟩,
 ⟨some 21,false,none,iCmp .gtr (.t 18) (.t 20)⟩,
 ⟨some 22,false,none,iMov (.t 21)⟩,
 ⟨some 23,false,some (22,false),iFaddr 0 (.t 6)⟩,
 ⟨some 24,false,some (22,false),iLoad (.t 23)⟩,
 ⟨some 25,false,some (22,false),iEq true false 1 [(0,.nilS)] (.t 24) (.c .nilslice)⟩,
 ⟨some 26,false,some (22,false),iMov (.t 25)⟩,
 ⟨some 27,false,some (26,true),iFaddr 1 (.t 3)⟩,
 ⟨some 28,false,some (26,true),iLoad (.t 27)⟩,
 ⟨some 29,false,some (26,true),iLoadN 2 (.t 8)⟩,
 ⟨some 30,false,some (26,true),iLoadN 2 (.t 6)⟩,
 ⟨some 31,false,some (26,true),iCall (.t 28) [(.t 29),(.t 30)]⟩,
 ⟨some 32,false,some (26,true),iNot (.t 31)⟩,
 ⟨some 33,false,some (22,false),iPick (.t 26) (.t 32) (.c (.bool (.lit false)))⟩,
 ⟨some 34,true,none,iPick (.t 22) (.c (.bool (.lit true))) (.t 33)⟩])
 (cCond (.t 34) (cExit 1) cSkip))
 (dOps 0 [⟨⟨some 35,false,none,iMov (.t 7)⟩,[7],false,0,0,none,[]⟩,
 ⟨⟨some 36,false,none,iCall (.c (.func (.func 42) [] [])) [(.t 35)]⟩,[35],true,0,0,none,[]⟩,
 ⟨⟨some 37,false,none,iFaddr 1 (.t 8)⟩,[8],false,0,1,none,[]⟩,
 ⟨⟨some 38,false,none,iLoad (.t 37)⟩,[37],false,0,1,none,[]⟩,
 ⟨⟨some 39,false,none,iBuild [.nilslice,(.int .i64 (.lit 0))] [(0,1,(.t 36)),(1,1,(.t 38))]⟩,[36,38],false,1,1,none,[]⟩,
 ⟨⟨none,false,none,iStore 2 (.t 6) (.t 39)⟩,[6,39],true,1,0,none,[]⟩]))))
noncomputable def Tryd.kp19 : List Nat := [0,1,2,3,4,5,6,7,8,10,11,34,42]
noncomputable def Tryd.cf19 : CF := ⟨2,(cSeq (cOps [⟨some 2,true,none,iBox 52 (.t 0)⟩,
 ⟨some 3,true,none,iBox 58 (.t 1)⟩,
 ⟨some 4,true,none,iMov (.c .nilslice)⟩,
 ⟨some 5,true,none,iMov (.c (.int .i64 (.lit 0)))⟩])
 (cSeq (cOps [⟨some 6,true,none,iAlloc 78 [.nilslice,(.int .i64 (.lit 0))]⟩])
 (cSeq (cSeq (cOps [⟨some 9,false,none,iLoadN 14 (.t 2)⟩,
 ⟨some 10,true,none,iCall (.c (.func (.func 41) [] [])) [(.t 9)]⟩])
 (cBlock 0 (cRange (.t 10) [11] 19011)))
 (cSeq (cSeq (cOps [⟨some 40,false,none,iFaddr 0 (.t 6)⟩,
 ⟨some 41,false,none,iLoad (.t 40)⟩,
 ⟨some 42,true,none,iEq false false 1 [(0,.nilS)] (.t 41) (.c .nilslice)⟩])
 (cCond (.t 42) (cSeq (cOps [⟨some 4,true,none,iMov (.c .nilslice)⟩,
 ⟨some 5,true,none,iMov (.c (.int .i64 (.lit 4)))⟩])
 cRet) cSkip))
 (cSeq (cOps [⟨some 43,false,none,iFaddr 0 (.t 6)⟩,
 ⟨some 44,false,none,iLoad (.t 43)⟩,
 ⟨some 4,true,none,iMov (.t 44)⟩,
 ⟨some 5,true,none,iMov (.c (.int .i64 (.lit 0)))⟩])
 cRet))))),[.t 4,.t 5]⟩
noncomputable def Tryd.kp20 : List Nat := [0,1,2,3,4,9]
noncomputable def Tryd.cf20 : CF := ⟨2,(cSeq (cOps [⟨some 2,true,none,iBox 78 (.t 0)⟩,
 ⟨some 3,true,none,iBox 78 (.t 1)⟩,
 ⟨some 4,true,none,iMov (.c (.bool (.lit false)))⟩])
 (cSeq (cSeq (cOps [⟨some 5,false,none,iFaddr 1 (.t 2)⟩,
 ⟨some 6,false,none,iLoad (.t 5)⟩,
 ⟨some 7,false,none,iFaddr 1 (.t 3)⟩,
 ⟨some 8,false,none,iLoad (.t 7)⟩,
 ⟨some 9,true,none,iCmp .neq (.t 6) (.t 8)⟩])
 (cCond (.t 9) (cSeq (cOps [⟨some 10,false,none,iFaddr 1 (.t 2)⟩,
 ⟨some 11,false,none,iLoad (.t 10)⟩,
 ⟨some 12,false,none,iFaddr 1 (.t 3)⟩,
 ⟨some 13,false,none,iLoad (.t 12)⟩,
 ⟨some 14,false,none,iCmp .lss (.t 11) (.t 13)⟩,
 ⟨some 4,true,none,iMov (.t 14)⟩])
 cRet) cSkip))
 (cSeq (cOps [⟨some 15,false,none,iLoadN 2 (.t 2)⟩,
 ⟨some 16,false,none,iLoadN 2 (.t 3)⟩,
 ⟨some 17,false,none,iCall (.c (.func (.func 37) [] [])) [(.t 15),(.t 16)]⟩,
 ⟨some 4,true,none,iMov (.t 17)⟩])
 cRet))),[.t 4]⟩
noncomputable def Tryd.kp21 : List Nat := [0,1,2,4]
noncomputable def Tryd.cf21 : CF := ⟨1,(cSeq (cOps [⟨some 1,true,none,iBox 28 (.t 0)⟩,
 ⟨some 2,true,none,iMov (.c (.int .i64 (.lit 0)))⟩])
 (cSeq (cOps [⟨some 6,false,none,iLoadN 12 (.t 1)⟩,
 ⟨some 7,false,none,iCall (.c (.func (.func 18) [] [])) [(.t 6)]⟩,
 ⟨some 5,false,none,iMov (.t 7)⟩,
 ⟨some 8,false,none,iExtract 0 (.t 5)⟩,
 ⟨some 9,false,none,iExtract 1 (.t 5)⟩,
 ⟨some 3,false,none,iAlloc 52 [.nilslice,(.int .i64 (.lit 0)),(.int .i64 (.lit 0)),(.int .i64 (.lit 0)),(.int .i64 (.lit 0)),(.int .i64 (.lit 0)),(.int .i64 (.lit 0)),(.int .i64 (.lit 0)),(.int .i64 (.lit 0)),(.int .i64 (.lit 0)),(.int .i64 (.lit 0)),(.int .i64 (.lit 0)),.nilslice,.nilmap]⟩,
 ⟨none,false,none,iStore 14 (.t 3) (.t 8)⟩,
 ⟨some 4,true,none,iMov (.t 9)⟩])
 (cSeq (cOps [⟨some 10,false,none,iMov (.t 4)⟩,
 ⟨some 2,true,none,iMov (.t 10)⟩])
 cRet))),[.t 2]⟩
noncomputable def Tryd.kp22 : List Nat := [0,1,2,5]
noncomputable def Tryd.cf22 : CF := ⟨1,(cSeq (cOps [⟨some 1,true,none,iBox 26 (.t 0)⟩,
 ⟨some 2,true,none,iMov (.c (.int .i64 (.lit 0)))⟩])
 (cSeq (cSeq (cOps [⟨some 3,false,none,iLoadN 6 (.t 1)⟩,
 ⟨some 4,false,none,iCall (.c (.func (.func 43) [] [])) [(.t 3)]⟩,
 ⟨some 5,true,none,iNot (.t 4)⟩])
 (cCond (.t 5) (cSeq (cOps [⟨some 2,true,none,iMov (.c (.int .i64 (.lit 10)))⟩])
 cRet) cSkip))
 (cSeq (cOps [⟨some 2,true,none,iMov (.c (.int .i64 (.lit 0)))⟩])
 cRet))),[.t 2]⟩
noncomputable def Tryd.kp23 : List Nat := [0,1,2,3,6]
noncomputable def Tryd.cf23 : CF := ⟨3,(cSeq (cOps [⟨some 3,true,none,iBox 24 (.t 0)⟩,
 ⟨some 6,true,none,iMov (.c (.bool (.lit false)))⟩])
 (cSeq (cOps [⟨some 7,false,none,iMov (.t 1)⟩,
 ⟨some 8,false,none,iFaddr 0 (.t 3)⟩,
 ⟨some 9,false,none,iLoad (.t 8)⟩,
 ⟨some 10,false,none,iCmp .leq (.t 7) (.t 9)⟩,
 ⟨some 11,false,none,iMov (.t 10)⟩,
 ⟨some 12,false,some (11,true),iFaddr 0 (.t 3)⟩,
 ⟨some 13,false,some (11,true),iLoad (.t 12)⟩,
 ⟨some 14,false,some (11,true),iFaddr 1 (.t 3)⟩,
 ⟨some 15,false,some (11,true),iLoad (.t 14)⟩,
 ⟨some 16,false,some (11,true),iCmp .leq (.t 13) (.t 15)⟩,
 ⟨some 17,false,none,iPick (.t 11) (.t 16) (.c (.bool (.lit false)))⟩,
 ⟨some 18,false,none,iMov (.t 17)⟩,
 ⟨some 19,false,some (18,true),iFaddr 1 (.t 3)⟩,
 ⟨some 20,false,some (18,true),iLoad (.t 19)⟩,
 ⟨some 21,false,some (18,true),iMov (.t 2)⟩,
 ⟨some 22,false,some (18,true),iCmp .leq (.t 20) (.t 21)⟩,
 ⟨some 23,false,none,iPick (.t 18) (.t 22) (.c (.bool (.lit false)))⟩,
 ⟨some 6,true,none,iMov (.t 23)⟩])
 cRet)),[.t 6]⟩
noncomputable def Tryd.kp24 : List Nat := [0,1,2,4,5,6,7,14]
noncomputable def Tryd.cf24 : CF := ⟨2,(cSeq (cOps [⟨some 2,true,none,iBox 28 (.t 0)⟩,
 ⟨some 4,true,none,iMov (.c (.bool (.lit false)))⟩,
 ⟨some 5,true,none,iMov (.c (.int .i64 (.lit 0)))⟩])
 (cSeq (cOps [⟨some 9,false,none,iLoadN 12 (.t 2)⟩,
 ⟨some 10,false,none,iCall (.c (.func (.func 18) [] [])) [(.t 9)]⟩,
 ⟨some 8,false,none,iMov (.t 10)⟩,
 ⟨some 11,false,none,iExtract 0 (.t 8)⟩,
 ⟨some 12,false,none,iExtract 1 (.t 8)⟩,
 ⟨some 6,true,none,iAlloc 52 [.nilslice,(.int .i64 (.lit 0)),(.int .i64 (.lit 0)),(.int .i64 (.lit 0)),(.int .i64 (.lit 0)),(.int .i64 (.lit 0)),(.int .i64 (.lit 0)),(.int .i64 (.lit 0)),(.int .i64 (.lit 0)),(.int .i64 (.lit 0)),(.int .i64 (.lit 0)),(.int .i64 (.lit 0)),.nilslice,.nilmap]⟩,
 ⟨none,false,none,iStore 14 (.t 6) (.t 11)⟩,
 ⟨some 7,true,none,iMov (.t 12)⟩])
 (cSeq (cSeq (cOps [⟨some 13,false,none,iMov (.t 7)⟩,
 ⟨some 14,true,none,iCmp .neq (.t 13) (.c (.int .i64 (.lit 0)))⟩])
 (cCond (.t 14) (cSeq (cOps [⟨some 15,false,none,iMov (.t 7)⟩,
 ⟨some 4,true,none,iMov (.c (.bool (.lit false)))⟩,
 ⟨some 5,true,none,iMov (.t 15)⟩])
 cRet) cSkip))
 (cSeq (cOps [⟨some 16,false,none,iLoadN 14 (.t 6)⟩,
 ⟨some 17,false,none,iMov (.t 1)⟩,
 ⟨some 18,false,none,iCall (.c (.func (.func 44) [] [])) [(.t 16),(.t 17)]⟩,
 ⟨some 4,true,none,iMov (.t 18)⟩,
 ⟨some 5,true,none,iMov (.c (.int .i64 (.lit 0)))⟩])
 cRet)))),[.t 4,.t 5]⟩
noncomputable def Tryd.kp25 : List Nat := [0]
noncomputable def Tryd.cf25 : CF := ⟨0,(cSeq (cOps [⟨some 0,true,none,iAlloc 28 [.nilslice,(.int .i64 (.lit 0)),(.int .i64 (.lit 0)),(.int .i64 (.lit 0)),(.int .i64 (.lit 0)),(.int .i64 (.lit 0)),(.int .i64 (.lit 0)),(.int .i64 (.lit 0)),(.int .i64 (.lit 0)),(.int .i64 (.lit 0)),(.int .i64 (.lit 0)),(.int .i64 (.lit 0))]⟩])
 (cSeq (cOps [⟨some 1,false,none,iBslice 3 [(.int .i64 (.lit 0))] 3 [(0,1,(.c (.int .i64 (.lit 1000)))),(1,1,(.c (.int .i64 (.lit 800)))),(2,1,(.c (.int .i64 (.lit 600))))]⟩,
 ⟨some 2,false,none,iCall (.c (.func (.func 45) [] [])) [(.t 1)]⟩,
 ⟨some 3,false,none,iCall (.c (.func (.func 17) [] [])) [(.c (.int .i64 (.lit 300))),(.c (.int .i64 (.lit 400)))]⟩,
 ⟨some 4,false,none,iCall (.c (.func (.func 46) [] [])) [(.c (.int .i64 (.lit 300)))]⟩,
 ⟨some 5,false,none,iBuild [.nilslice,(.int .i64 (.lit 0)),(.int .i64 (.lit 0)),(.int .i64 (.lit 0)),(.int .i64 (.lit 0)),(.int .i64 (.lit 0)),(.int .i64 (.lit 0)),(.int .i64 (.lit 0)),(.int .i64 (.lit 0)),(.int .i64 (.lit 0)),(.int .i64 (.lit 0)),(.int .i64 (.lit 0))] [(0,6,(.t 2)),(7,2,(.t 3)),(9,2,(.t 4)),(11,1,(.c (.int .i64 (.lit 2))))]⟩,
 ⟨none,false,none,iStore 12 (.t 0) (.t 5)⟩])
 cRet)),[.cell 0 true 12]⟩
noncomputable def Tryd.kp26 : List Nat := [0,1,2,4,5,6,7,8,9,10,11,19,34,35,36]
noncomputable def Tryd.cf26 : CF := ⟨2,(cSeq (cOps [⟨some 2,true,none,iBox 28 (.t 0)⟩,
 ⟨some 4,true,none,iMov (.c .nilslice)⟩,
 ⟨some 5,true,none,iMov (.c (.int .i64 (.lit 0)))⟩])
 (cSeq (cOps [⟨some 13,false,none,iLoadN 12 (.t 2)⟩,
 ⟨some 14,false,none,iMov (.t 1)⟩,
 ⟨some 15,false,none,iCall (.c (.func (.func 33) [] [])) [(.t 13),(.t 14),(.c .nilslice)]⟩,
 ⟨some 12,false,none,iMov (.t 15)⟩,
 ⟨some 16,false,none,iExtract 0 (.t 12)⟩,
 ⟨some 17,false,none,iExtract 1 (.t 12)⟩,
 ⟨some 6,true,none,iAlloc 52 [.nilslice,(.int .i64 (.lit 0)),(.int .i64 (.lit 0)),(.int .i64 (.lit 0)),(.int .i64 (.lit 0)),(.int .i64 (.lit 0)),(.int .i64 (.lit 0)),(.int .i64 (.lit 0)),(.int .i64 (.lit 0)),(.int .i64 (.lit 0)),(.int .i64 (.lit 0)),(.int .i64 (.lit 0)),.nilslice,.nilmap]⟩,
 ⟨none,false,none,iStore 14 (.t 6) (.t 16)⟩,
 ⟨some 7,true,none,iMov (.t 17)⟩])
 (cSeq (cSeq (cOps [⟨some 18,false,none,iMov (.t 7)⟩,
 ⟨some 19,true,none,iCmp .neq (.t 18) (.c (.int .i64 (.lit 0)))⟩])
 (cCond (.t 19) (cSeq (cOps [⟨some 20,false,none,iMov (.t 7)⟩,
 ⟨some 4,true,none,iMov (.c .nilslice)⟩,
 ⟨some 5,true,none,iMov (.t 20)⟩])
 cRet) cSkip))
 (cSeq (dOps 0 [⟨⟨some 21,false,none,iLoadN 14 (.t 6)⟩,[6],false,0,0,none,[]⟩,
 ⟨⟨some 22,false,none,iCall (.c (.func (.func 47) [] [])) [(.t 21),(.c (.int .i64 (.lit 0))),(.c (.int .i64 (.lit 0)))]⟩,[21],true,0,0,none,[]⟩,
 ⟨⟨some 23,false,none,iMov (.t 1)⟩,[1],false,0,1,none,[]⟩,
 ⟨⟨some 24,false,none,iCall (.c (.func (.func 48) [] [])) [(.t 22),(.t 23)]⟩,[22,23],true,1,0,none,[]⟩,
 ⟨⟨some 25,false,none,iLoadN 14 (.t 6)⟩,[6],false,0,2,none,[]⟩,
 ⟨⟨some 26,false,none,iCall (.c (.func (.func 47) [] [])) [(.t 25),(.c (.int .i64 (.lit 1))),(.c (.int .i64 (.lit 1)))]⟩,[25],true,2,0,none,[]⟩,
 ⟨⟨some 27,false,none,iMov (.t 1)⟩,[1],false,0,3,none,[]⟩,
 ⟨⟨some 28,false,none,iCall (.c (.func (.func 48) [] [])) [(.t 26),(.t 27)]⟩,[26,27],true,3,0,none,[]⟩,
 ⟨⟨some 8,true,none,iMov (.t 24)⟩,[24],false,4,4,none,[]⟩,
 ⟨⟨some 9,true,none,iMov (.t 28)⟩,[28],false,4,4,none,[]⟩])
 (cSeq (cOps [⟨some 29,false,none,iFaddr 12 (.t 6)⟩,
 ⟨some 30,false,none,iLoad (.t 29)⟩,
 ⟨some 31,false,none,iLenS (.t 30)⟩,
 ⟨some 32,false,none,iMkslice 24 [(.int .i64 (.lit 0)),(.int .i64 (.lit 0))] 16 (.t 31) (.t 31)⟩,
 ⟨some 10,true,none,iMov (.t 32)⟩])
 (cSeq (cSeq (cOps [⟨some 33,false,none,iMov (.t 10)⟩,
 ⟨some 34,true,none,iLenS (.t 33)⟩,
 ⟨some 35,true,none,iMov (.c (.int .i64 (.lit 0)))⟩])
 (cBlock 0 (cLoop (cSeq (cOps [⟨some 36,true,none,iCmp .lss (.t 35) (.t 34)⟩])
 (cSeq (cCond (.t 36) cSkip (cExit 0))
 (cSeq (cBlock 1 (cSeq (cOps [⟨some 37,false,none,iMov (.t 35)⟩,
 ⟨some 11,true,none,iMov (.t 37)⟩])
 (dOps 0 [⟨⟨some 38,false,none,iMov (.t 10)⟩,[10],false,0,0,none,[]⟩,
 ⟨⟨some 39,false,none,iMov (.t 11)⟩,[11],false,0,0,none,[]⟩,
 ⟨⟨some 40,false,none,iMov (.t 8)⟩,[8],false,0,0,none,[]⟩,
 ⟨⟨some 41,false,none,iMov (.t 11)⟩,[11],false,0,0,none,[]⟩,
 ⟨⟨some 42,false,none,iIaddr 1 (.t 40) (.t 41)⟩,[40,41],false,0,0,none,[]⟩,
 ⟨⟨some 43,false,none,iLoad (.t 42)⟩,[42],false,0,0,none,[]⟩,
 ⟨⟨some 44,false,none,iMov (.t 9)⟩,[9],false,0,0,none,[]⟩,
 ⟨⟨some 45,false,none,iMov (.t 11)⟩,[11],false,0,0,none,[]⟩,
 ⟨⟨some 46,false,none,iIaddr 1 (.t 44) (.t 45)⟩,[44,45],false,0,0,none,[]⟩,
 ⟨⟨some 47,false,none,iLoad (.t 46)⟩,[46],false,0,0,none,[]⟩,
 ⟨⟨some 48,false,none,iBuild [(.int .i64 (.lit 0)),(.int .i64 (.lit 0))] [(0,1,(.t 43)),(1,1,(.t 47))]⟩,[43,47],false,0,0,none,[]⟩,
 ⟨⟨some 49,false,none,iIaddr 2 (.t 38) (.t 39)⟩,[38,39],false,0,0,none,[]⟩,
 ⟨⟨none,false,none,iStore 2 (.t 49) (.t 48)⟩,[49,48],true,0,0,none,[]⟩])))
 (cOps [⟨some 50,false,none,iArith .add (.t 35) (.c (.int .i64 (.lit 1)))⟩,
 ⟨some 35,true,none,iMov (.t 50)⟩])))))))
 (cSeq (cOps [⟨some 51,false,none,iMov (.t 10)⟩,
 ⟨some 4,true,none,iMov (.t 51)⟩,
 ⟨some 5,true,none,iMov (.c (.int .i64 (.lit 0)))⟩])
 cRet))))))),[.t 4,.t 5]⟩
noncomputable def Tryd.kp27 : List Nat := [0,1,2,3,6,7,8,9,19]
noncomputable def Tryd.cf27 : CF := ⟨3,(cSeq (cOps [⟨some 3,true,none,iBox 28 (.t 0)⟩,
 ⟨some 6,true,none,iAlloc 24 [(.int .i64 (.lit 0)),(.int .i64 (.lit 0))]⟩,
 ⟨some 7,true,none,iMov (.c (.int .i64 (.lit 0)))⟩])
 (cSeq (cOps [⟨some 11,false,none,iLoadN 12 (.t 3)⟩,
 ⟨some 12,false,none,iMov (.t 1)⟩,
 ⟨some 13,false,none,iMov (.t 2)⟩,
 ⟨some 14,false,none,iBslice 3 [(.int .i64 (.lit 0))] 1 [(0,1,(.t 13))]⟩,
 ⟨some 15,false,none,iCall (.c (.func (.func 33) [] [])) [(.t 11),(.t 12),(.t 14)]⟩,
 ⟨some 10,false,none,iMov (.t 15)⟩,
 ⟨some 16,false,none,iExtract 0 (.t 10)⟩,
 ⟨some 17,false,none,iExtract 1 (.t 10)⟩,
 ⟨some 8,true,none,iAlloc 52 [.nilslice,(.int .i64 (.lit 0)),(.int .i64 (.lit 0)),(.int .i64 (.lit 0)),(.int .i64 (.lit 0)),(.int .i64 (.lit 0)),(.int .i64 (.lit 0)),(.int .i64 (.lit 0)),(.int .i64 (.lit 0)),(.int .i64 (.lit 0)),(.int .i64 (.lit 0)),(.int .i64 (.lit 0)),.nilslice,.nilmap]⟩,
 ⟨none,false,none,iStore 14 (.t 8) (.t 16)⟩,
 ⟨some 9,true,none,iMov (.t 17)⟩])
 (cSeq (cSeq (cOps [⟨some 18,false,none,iMov (.t 9)⟩,
 ⟨some 19,true,none,iCmp .neq (.t 18) (.c (.int .i64 (.lit 0)))⟩])
 (cCond (.t 19) (cSeq (cOps [⟨some 20,false,none,iBuild [(.int .i64 (.lit 0)),(.int .i64 (.lit 0))] []⟩,
 ⟨some 21,false,none,iMov (.t 9)⟩,
 ⟨none,false,none,iStore 2 (.t 6) (.t 20)⟩,
 ⟨some 7,true,none,iMov (.t 21)⟩])
 cRet) cSkip))
 (cSeq (dOps 0 [⟨⟨some 22,false,none,iLoadN 14 (.t 8)⟩,[8],false,0,0,none,[]⟩,
 ⟨⟨some 23,false,none,iCall (.c (.func (.func 47) [] [])) [(.t 22),(.c (.int .i64 (.lit 0))),(.c (.int .i64 (.lit 0)))]⟩,[22],true,0,0,none,[]⟩,
 ⟨⟨some 24,false,none,iMov (.t 1)⟩,[1],false,0,1,none,[]⟩,
 ⟨⟨some 25,false,none,iMov (.t 2)⟩,[2],false,0,1,none,[]⟩,
 ⟨⟨some 26,false,none,iCall (.c (.func (.func 49) [] [])) [(.t 23),(.t 24),(.t 25)]⟩,[23,24,25],true,1,0,none,[]⟩,
 ⟨⟨some 27,false,none,iLoadN 14 (.t 8)⟩,[8],false,0,2,none,[]⟩,
 ⟨⟨some 28,false,none,iCall (.c (.func (.func 47) [] [])) [(.t 27),(.c (.int .i64 (.lit 1))),(.c (.int .i64 (.lit 1)))]⟩,[27],true,2,0,none,[]⟩,
 ⟨⟨some 29,false,none,iMov (.t 1)⟩,[1],false,0,3,none,[]⟩,
 ⟨⟨some 30,false,none,iMov (.t 2)⟩,[2],false,0,3,none,[]⟩,
 ⟨⟨some 31,false,none,iCall (.c (.func (.func 49) [] [])) [(.t 28),(.t 29),(.t 30)]⟩,[28,29,30],true,3,0,none,[]⟩,
 ⟨⟨some 32,false,none,iBuild [(.int .i64 (.lit 0)),(.int .i64 (.lit 0))] [(0,1,(.t 26)),(1,1,(.t 31))]⟩,[26,31],false,4,4,none,[]⟩,
 ⟨⟨none,false,none,iStore 2 (.t 6) (.t 32)⟩,[6,32],true,4,0,none,[]⟩,
 ⟨⟨some 7,true,none,iMov (.c (.int .i64 (.lit 0)))⟩,[],false,5,5,none,[]⟩])
 cRet)))),[.cell 6 true 2,.t 7]⟩
noncomputable def Tryd.kp28 : List Nat := [0,1,4,5,6,18]
noncomputable def Tryd.cf28 : CF := ⟨2,(cSeq (cOps [⟨some 4,true,none,iMov (.c (.bool (.lit false)))⟩])
 (cSeq (cOps [⟨some 7,false,none,iMov (.t 0)⟩,
 ⟨some 8,false,none,iLenS (.t 7)⟩,
 ⟨some 9,false,none,iMov (.t 1)⟩,
 ⟨some 10,false,none,iLenS (.t 9)⟩,
 ⟨some 11,false,none,iCmp .eql (.t 8) (.t 10)⟩,
 ⟨some 5,true,none,iMov (.t 11)⟩])
 (cSeq (cSeq (cOps [⟨some 6,true,none,iMov (.c (.int .i64 (.lit 0)))⟩])
 (cBlock 0 (cLoop (cSeq (cSeq (cOps [⟨some 12,false,none,iMov (.t 5)⟩,
 ⟨some 13,false,none,iMov (.t 12)⟩,
 ⟨some 14,false,some (13,true),iMov (.t 6)⟩,
 ⟨some 15,false,some (13,true),iMov (.t 0)⟩,
 ⟨some 16,false,some (13,true),iLenS (.t 15)⟩,
 ⟨some 17,false,some (13,true),iCmp .lss (.t 14) (.t 16)⟩,
 ⟨some 18,true,none,iPick (.t 13) (.t 17) (.c (.bool (.lit false)))⟩])
 (cCond (.t 18) cSkip (cExit 0)))
 (cSeq (cBlock 1 (dOps 0 [⟨⟨some 21,false,none,iMov (.t 0)⟩,[0],false,0,0,none,[]⟩,
 ⟨⟨some 22,false,none,iMov (.t 6)⟩,[6],false,0,0,none,[]⟩,
 ⟨⟨some 23,false,none,iIaddr 2 (.t 21) (.t 22)⟩,[21,22],false,0,0,none,[]⟩,
 ⟨⟨some 24,false,none,iLoadN 2 (.t 23)⟩,[23],false,0,0,none,[]⟩,
 ⟨⟨some 25,false,none,iMov (.t 1)⟩,[1],false,0,0,none,[]⟩,
 ⟨⟨some 26,false,none,iMov (.t 6)⟩,[6],false,0,0,none,[]⟩,
 ⟨⟨some 27,false,none,iIaddr 2 (.t 25) (.t 26)⟩,[25,26],false,0,0,none,[]⟩,
 ⟨⟨some 28,false,none,iLoadN 2 (.t 27)⟩,[27],false,0,0,none,[]⟩,
 ⟨⟨some 29,false,none,iEq false true 2 [(0,.int),(1,.int)] (.t 24) (.t 28)⟩,[24,28],false,0,0,none,[]⟩,
 ⟨⟨some 5,true,none,iMov (.t 29)⟩,[29],false,0,0,none,[]⟩]))
 (cOps [⟨some 19,false,none,iMov (.t 6)⟩,
 ⟨some 20,false,none,iArith .add (.t 19) (.c (.int .i64 (.lit 1)))⟩,
 ⟨some 6,true,none,iMov (.t 20)⟩]))))))
 (cSeq (cOps [⟨some 30,false,none,iMov (.t 5)⟩,
 ⟨some 4,true,none,iMov (.t 30)⟩])
 cRet)))),[.t 4]⟩
noncomputable def Tryd.kp29 : List Nat := [0,1]
noncomputable def Tryd.cf29 : CF := ⟨0,(cSeq (cOps [⟨some 0,true,none,iAlloc 28 [.nilslice,(.int .i64 (.lit 0)),(.int .i64 (.lit 0)),(.int .i64 (.lit 0)),(.int .i64 (.lit 0)),(.int .i64 (.lit 0)),(.int .i64 (.lit 0)),(.int .i64 (.lit 0)),(.int .i64 (.lit 0)),(.int .i64 (.lit 0)),(.int .i64 (.lit 0)),(.int .i64 (.lit 0))]⟩])
 (cSeq (cOps [⟨some 2,false,none,iCall (.c (.func (.func 25) [] [])) []⟩,
 ⟨some 1,true,none,iAlloc 28 [.nilslice,(.int .i64 (.lit 0)),(.int .i64 (.lit 0)),(.int .i64 (.lit 0)),(.int .i64 (.lit 0)),(.int .i64 (.lit 0)),(.int .i64 (.lit 0)),(.int .i64 (.lit 0)),(.int .i64 (.lit 0)),(.int .i64 (.lit 0)),(.int .i64 (.lit 0)),(.int .i64 (.lit 0))]⟩,
 ⟨none,false,none,iStore 12 (.t 1) (.t 2)⟩])
 (cSeq (cOps [⟨some 3,false,none,iCall (.c (.func (.func 17) [] [])) [(.c (.int .i64 (.lit 900))),(.c (.int .i64 (.lit 1000)))]⟩,
 ⟨some 4,false,none,iCall (.c (.func (.func 46) [] [])) [(.c (.int .i64 (.lit 900)))]⟩,
 ⟨some 5,false,none,iFaddr 7 (.t 1)⟩,
 ⟨none,false,none,iStore 2 (.t 5) (.t 3)⟩,
 ⟨some 6,false,none,iFaddr 9 (.t 1)⟩,
 ⟨none,false,none,iStore 2 (.t 6) (.t 4)⟩])
 (cSeq (cOps [⟨some 7,false,none,iLoadN 12 (.t 1)⟩,
 ⟨none,false,none,iStore 12 (.t 0) (.t 7)⟩])
 cRet)))),[.cell 0 true 12]⟩
noncomputable def Tryd.kp30 : List Nat := [0,1,4,5,6,18]
noncomputable def Tryd.cf30 : CF := ⟨2,(cSeq (cOps [⟨some 4,true,none,iMov (.c (.bool (.lit false)))⟩])
 (cSeq (cOps [⟨some 7,false,none,iMov (.t 0)⟩,
 ⟨some 8,false,none,iLenS (.t 7)⟩,
 ⟨some 9,false,none,iMov (.t 1)⟩,
 ⟨some 10,false,none,iLenS (.t 9)⟩,
 ⟨some 11,false,none,iCmp .eql (.t 8) (.t 10)⟩,
 ⟨some 5,true,none,iMov (.t 11)⟩])
 (cSeq (cSeq (cOps [⟨some 6,true,none,iMov (.c (.int .i64 (.lit 0)))⟩])
 (cBlock 0 (cLoop (cSeq (cSeq (cOps [⟨some 12,false,none,iMov (.t 5)⟩,
 ⟨some 13,false,none,iMov (.t 12)⟩,
 ⟨some 14,false,some (13,true),iMov (.t 6)⟩,
 ⟨some 15,false,some (13,true),iMov (.t 0)⟩,
 ⟨some 16,false,some (13,true),iLenS (.t 15)⟩,
 ⟨some 17,false,some (13,true),iCmp .lss (.t 14) (.t 16)⟩,
 ⟨some 18,true,none,iPick (.t 13) (.t 17) (.c (.bool (.lit false)))⟩])
 (cCond (.t 18) cSkip (cExit 0)))
 (cSeq (cBlock 1 (dOps 0 [⟨⟨some 21,false,none,iMov (.t 0)⟩,[0],false,0,0,none,[]⟩,
 ⟨⟨some 22,false,none,iMov (.t 6)⟩,[6],false,0,0,none,[]⟩,
 ⟨⟨some 23,false,none,iIaddr 1 (.t 21) (.t 22)⟩,[21,22],false,0,0,none,[]⟩,
 ⟨⟨some 24,false,none,iLoad (.t 23)⟩,[23],false,0,0,none,[]⟩,
 ⟨⟨some 25,false,none,iMov (.t 1)⟩,[1],false,0,0,none,[]⟩,
 ⟨⟨some 26,false,none,iMov (.t 6)⟩,[6],false,0,0,none,[]⟩,
 ⟨⟨some 27,false,none,iIaddr 1 (.t 25) (.t 26)⟩,[25,26],false,0,0,none,[]⟩,
 ⟨⟨some 28,false,none,iLoad (.t 27)⟩,[27],false,0,0,none,[]⟩,
 ⟨⟨some 29,false,none,iCmp .eql (.t 24) (.t 28)⟩,[24,28],false,0,0,none,[]⟩,
 ⟨⟨some 5,true,none,iMov (.t 29)⟩,[29],false,0,0,none,[]⟩]))
 (cOps [⟨some 19,false,none,iMov (.t 6)⟩,
 ⟨some 20,false,none,iArith .add (.t 19) (.c (.int .i64 (.lit 1)))⟩,
 ⟨some 6,true,none,iMov (.t 20)⟩]))))))
 (cSeq (cOps [⟨some 30,false,none,iMov (.t 5)⟩,
 ⟨some 4,true,none,iMov (.t 30)⟩])
 cRet)))),[.t 4]⟩
noncomputable def Tryd.kp31 : List Nat := [0,2,3,4,8]
noncomputable def Tryd.cf31 : CF := ⟨1,(cSeq (cOps [⟨some 2,true,none,iMov (.c (.int .i64 (.lit 0)))⟩])
 (cSeq (cOps [⟨some 3,true,none,iMov (.c (.int .i64 (.lit 0)))⟩])
 (cSeq (cSeq (cOps [⟨some 4,true,none,iMov (.c (.int .i64 (.lit 0)))⟩])
 (cBlock 0 (cLoop (cSeq (cSeq (cOps [⟨some 5,false,none,iMov (.t 4)⟩,
 ⟨some 6,false,none,iMov (.t 0)⟩,
 ⟨some 7,false,none,iLenS (.t 6)⟩,
 ⟨some 8,true,none,iCmp .lss (.t 5) (.t 7)⟩])
 (cCond (.t 8) cSkip (cExit 0)))
 (cSeq (cBlock 1 (cOps [⟨some 11,false,none,iMov (.t 3)⟩,
 ⟨some 12,false,none,iMov (.t 0)⟩,
 ⟨some 13,false,none,iMov (.t 4)⟩,
 ⟨some 14,false,none,iIaddr 1 (.t 12) (.t 13)⟩,
 ⟨some 15,false,none,iLoad (.t 14)⟩,
 ⟨some 16,false,none,iArith .add (.t 11) (.t 15)⟩,
 ⟨some 3,true,none,iMov (.t 16)⟩]))
 (cOps [⟨some 9,false,none,iMov (.t 4)⟩,
 ⟨some 10,false,none,iArith .add (.t 9) (.c (.int .i64 (.lit 1)))⟩,
 ⟨some 4,true,none,iMov (.t 10)⟩]))))))
 (cSeq (cOps [⟨some 17,false,none,iMov (.t 3)⟩,
 ⟨some 2,true,none,iMov (.t 17)⟩])
 cRet)))),[.t 2]⟩
noncomputable def Tryd.kp32 : List Nat := [0,1,4,7]
noncomputable def Tryd.cf32 : CF := ⟨2,(cSeq (cOps [⟨some 4,true,none,iMov (.c (.int .i64 (.lit 0)))⟩])
 (cSeq (cSeq (cOps [⟨some 5,false,none,iMov (.t 0)⟩,
 ⟨some 6,false,none,iLenS (.t 5)⟩,
 ⟨some 7,true,none,iCmp .eql (.t 6) (.c (.int .i64 (.lit 0)))⟩])
 (cCond (.t 7) (cSeq (cOps [⟨some 4,true,none,iMov (.c (.int .i64 (.lit 0)))⟩])
 cRet) cSkip))
 (cSeq (cOps [⟨some 8,false,none,iMov (.t 0)⟩,
 ⟨some 9,false,none,iMov (.t 1)⟩,
 ⟨some 10,false,none,iMov (.t 0)⟩,
 ⟨some 11,false,none,iLenS (.t 10)⟩,
 ⟨some 12,false,none,iCall (.c (.func (.func 13) [] [])) [(.t 9),(.t 11)]⟩,
 ⟨some 13,false,none,iIaddr 1 (.t 8) (.t 12)⟩,
 ⟨some 14,false,none,iLoad (.t 13)⟩,
 ⟨some 4,true,none,iMov (.t 14)⟩])
 cRet))),[.t 4]⟩
noncomputable def Tryd.kp33 : List Nat := [0,1,2,3,6,7,8,9,16,29]
noncomputable def Tryd.cf33 : CF := ⟨3,(cSeq (cOps [⟨some 3,true,none,iBox 28 (.t 0)⟩,
 ⟨some 6,true,none,iAlloc 52 [.nilslice,(.int .i64 (.lit 0)),(.int .i64 (.lit 0)),(.int .i64 (.lit 0)),(.int .i64 (.lit 0)),(.int .i64 (.lit 0)),(.int .i64 (.lit 0)),(.int .i64 (.lit 0)),(.int .i64 (.lit 0)),(.int .i64 (.lit 0)),(.int .i64 (.lit 0)),(.int .i64 (.lit 0)),.nilslice,.nilmap]⟩,
 ⟨some 7,true,none,iMov (.c (.int .i64 (.lit 0)))⟩])
 (cSeq (cOps [⟨some 11,false,none,iLoadN 12 (.t 3)⟩,
 ⟨some 12,false,none,iCall (.c (.func (.func 18) [] [])) [(.t 11)]⟩,
 ⟨some 10,false,none,iMov (.t 12)⟩,
 ⟨some 13,false,none,iExtract 0 (.t 10)⟩,
 ⟨some 14,false,none,iExtract 1 (.t 10)⟩,
 ⟨some 8,true,none,iAlloc 52 [.nilslice,(.int .i64 (.lit 0)),(.int .i64 (.lit 0)),(.int .i64 (.lit 0)),(.int .i64 (.lit 0)),(.int .i64 (.lit 0)),(.int .i64 (.lit 0)),(.int .i64 (.lit 0)),(.int .i64 (.lit 0)),(.int .i64 (.lit 0)),(.int .i64 (.lit 0)),(.int .i64 (.lit 0)),.nilslice,.nilmap]⟩,
 ⟨none,false,none,iStore 14 (.t 8) (.t 13)⟩,
 ⟨some 9,true,none,iMov (.t 14)⟩])
 (cSeq (cSeq (cOps [⟨some 15,false,none,iMov (.t 9)⟩,
 ⟨some 16,true,none,iCmp .neq (.t 15) (.c (.int .i64 (.lit 0)))⟩])
 (cCond (.t 16) (cSeq (cOps [⟨some 17,false,none,iBuild [.nilslice,(.int .i64 (.lit 0)),(.int .i64 (.lit 0)),(.int .i64 (.lit 0)),(.int .i64 (.lit 0)),(.int .i64 (.lit 0)),(.int .i64 (.lit 0)),(.int .i64 (.lit 0)),(.int .i64 (.lit 0)),(.int .i64 (.lit 0)),(.int .i64 (.lit 0)),(.int .i64 (.lit 0)),.nilslice,.nilmap] []⟩,
 ⟨some 18,false,none,iMov (.t 9)⟩,
 ⟨none,false,none,iStore 14 (.t 6) (.t 17)⟩,
 ⟨some 7,true,none,iMov (.t 18)⟩])
 cRet) cSkip))
 (cSeq (cSeq (cOps [⟨some 19,false,none,iLoadN 14 (.t 8)⟩,
 ⟨some 20,false,none,iFunc (.func 44) [(.t 19)] []⟩,
 ⟨some 21,false,none,iMov (.t 1)⟩,
 ⟨some 22,false,none,iBslice 29 [.nilslice] 1 [(0,1,(.t 21))]⟩,
 ⟨some 23,false,none,iCall (.c (.func (.func 50) [] [])) [(.t 20),(.t 22)]⟩,
 ⟨some 24,false,none,iNot (.t 23)⟩,
 ⟨some 25,false,none,iMov (.t 24)⟩,
 ⟨some 26,false,some (25,false),iMov (.t 2)⟩,
 ⟨some 27,false,some (25,false),iCall (.c (.func (.func 51) [] [])) [(.c (.func (.func 52) [] [])),(.t 26)]⟩,
 ⟨some 28,false,some (25,false),iNot (.t 27)⟩,
 ⟨some 29,true,none,iPick (.t 25) (.c (.bool (.lit true))) (.t 28)⟩])
 (cCond (.t 29) (cSeq (cOps [⟨some 30,false,none,iBuild [.nilslice,(.int .i64 (.lit 0)),(.int .i64 (.lit 0)),(.int .i64 (.lit 0)),(.int .i64 (.lit 0)),(.int .i64 (.lit 0)),(.int .i64 (.lit 0)),(.int .i64 (.lit 0)),(.int .i64 (.lit 0)),(.int .i64 (.lit 0)),(.int .i64 (.lit 0)),(.int .i64 (.lit 0)),.nilslice,.nilmap] []⟩,
 ⟨none,false,none,iStore 14 (.t 6) (.t 30)⟩,
 ⟨some 7,true,none,iMov (.c (.int .i64 (.lit 81)))⟩])
 cRet) cSkip))
 (cSeq (cOps [⟨some 31,false,none,iLoadN 14 (.t 8)⟩,
 ⟨none,false,none,iStore 14 (.t 6) (.t 31)⟩,
 ⟨some 7,true,none,iMov (.c (.int .i64 (.lit 0)))⟩])
 cRet))))),[.cell 6 true 14,.t 7]⟩
noncomputable def Tryd.kp34 : List Nat := [0,1,2,4]
noncomputable def Tryd.cf34 : CF := ⟨2,(cSeq (cOps [⟨some 2,true,none,iBox 52 (.t 0)⟩,
 ⟨some 4,true,none,iMov (.c (.int .i64 (.lit 0)))⟩])
 (cSeq (cOps [⟨some 5,false,none,iLoadN 14 (.t 2)⟩,
 ⟨some 6,false,none,iCall (.c (.func (.func 47) [] [])) [(.t 5),(.c (.int .i64 (.lit 1))),(.c (.int .i64 (.lit 0)))]⟩,
 ⟨some 7,false,none,iMov (.t 1)⟩,
 ⟨some 8,false,none,iCall (.c (.func (.func 54) [] [])) [(.t 6),(.t 7)]⟩,
 ⟨some 9,false,none,iCall (.c (.func (.func 53) [] [])) [(.t 8)]⟩,
 ⟨some 4,true,none,iMov (.t 9)⟩])
 cRet)),[.t 4]⟩
noncomputable def Tryd.kp35 : List Nat := [0,1,2,4]
noncomputable def Tryd.cf35 : CF := ⟨2,(cSeq (cOps [⟨some 2,true,none,iBox 52 (.t 0)⟩,
 ⟨some 4,true,none,iMov (.c (.int .i64 (.lit 0)))⟩])
 (cSeq (cOps [⟨some 5,false,none,iLoadN 14 (.t 2)⟩,
 ⟨some 6,false,none,iCall (.c (.func (.func 47) [] [])) [(.t 5),(.c (.int .i64 (.lit 0))),(.c (.int .i64 (.lit 1)))]⟩,
 ⟨some 7,false,none,iMov (.t 1)⟩,
 ⟨some 8,false,none,iCall (.c (.func (.func 54) [] [])) [(.t 6),(.t 7)]⟩,
 ⟨some 9,false,none,iCall (.c (.func (.func 53) [] [])) [(.t 8)]⟩,
 ⟨some 4,true,none,iMov (.t 9)⟩])
 cRet)),[.t 4]⟩
noncomputable def Tryd.kp36 : List Nat := [0,1,2,4,5,6,7,14,19]
noncomputable def Tryd.cf36 : CF := ⟨2,(cSeq (cOps [⟨some 2,true,none,iBox 28 (.t 0)⟩,
 ⟨some 4,true,none,iAlloc 52 [.nilslice,(.int .i64 (.lit 0)),(.int .i64 (.lit 0)),(.int .i64 (.lit 0)),(.int .i64 (.lit 0)),(.int .i64 (.lit 0)),(.int .i64 (.lit 0)),(.int .i64 (.lit 0)),(.int .i64 (.lit 0)),(.int .i64 (.lit 0)),(.int .i64 (.lit 0)),(.int .i64 (.lit 0)),.nilslice,.nilmap]⟩,
 ⟨some 5,true,none,iMov (.c (.int .i64 (.lit 0)))⟩])
 (cSeq (cOps [⟨some 9,false,none,iLoadN 12 (.t 2)⟩,
 ⟨some 10,false,none,iCall (.c (.func (.func 18) [] [])) [(.t 9)]⟩,
 ⟨some 8,false,none,iMov (.t 10)⟩,
 ⟨some 11,false,none,iExtract 0 (.t 8)⟩,
 ⟨some 12,false,none,iExtract 1 (.t 8)⟩,
 ⟨some 6,true,none,iAlloc 52 [.nilslice,(.int .i64 (.lit 0)),(.int .i64 (.lit 0)),(.int .i64 (.lit 0)),(.int .i64 (.lit 0)),(.int .i64 (.lit 0)),(.int .i64 (.lit 0)),(.int .i64 (.lit 0)),(.int .i64 (.lit 0)),(.int .i64 (.lit 0)),(.int .i64 (.lit 0)),(.int .i64 (.lit 0)),.nilslice,.nilmap]⟩,
 ⟨none,false,none,iStore 14 (.t 6) (.t 11)⟩,
 ⟨some 7,true,none,iMov (.t 12)⟩])
 (cSeq (cSeq (cOps [⟨some 13,false,none,iMov (.t 7)⟩,
 ⟨some 14,true,none,iCmp .neq (.t 13) (.c (.int .i64 (.lit 0)))⟩])
 (cCond (.t 14) (cSeq (cOps [⟨some 15,false,none,iBuild [.nilslice,(.int .i64 (.lit 0)),(.int .i64 (.lit 0)),(.int .i64 (.lit 0)),(.int .i64 (.lit 0)),(.int .i64 (.lit 0)),(.int .i64 (.lit 0)),(.int .i64 (.lit 0)),(.int .i64 (.lit 0)),(.int .i64 (.lit 0)),(.int .i64 (.lit 0)),(.int .i64 (.lit 0)),.nilslice,.nilmap] []⟩,
 ⟨some 16,false,none,iMov (.t 7)⟩,
 ⟨none,false,none,iStore 14 (.t 4) (.t 15)⟩,
 ⟨some 5,true,none,iMov (.t 16)⟩])
 cRet) cSkip))
 (cSeq (cSeq (cOps [⟨some 17,false,none,iMov (.t 1)⟩,
 ⟨some 18,false,none,iCall (.c (.func (.func 52) [] [])) [(.t 17)]⟩,
 ⟨some 19,true,none,iNot (.t 18)⟩])
 (cCond (.t 19) (cSeq (cOps [⟨some 20,false,none,iBuild [.nilslice,(.int .i64 (.lit 0)),(.int .i64 (.lit 0)),(.int .i64 (.lit 0)),(.int .i64 (.lit 0)),(.int .i64 (.lit 0)),(.int .i64 (.lit 0)),(.int .i64 (.lit 0)),(.int .i64 (.lit 0)),(.int .i64 (.lit 0)),(.int .i64 (.lit 0)),(.int .i64 (.lit 0)),.nilslice,.nilmap] []⟩,
 ⟨none,false,none,iStore 14 (.t 4) (.t 20)⟩,
 ⟨some 5,true,none,iMov (.c (.int .i64 (.lit 81)))⟩])
 cRet) cSkip))
 (cSeq (cOps [⟨some 21,false,none,iLoadN 14 (.t 6)⟩,
 ⟨none,false,none,iStore 14 (.t 4) (.t 21)⟩,
 ⟨some 5,true,none,iMov (.c (.int .i64 (.lit 0)))⟩])
 cRet))))),[.cell 4 true 14,.t 5]⟩
noncomputable def Tryd.kp37 : List Nat := [0,1,2,3,4]
noncomputable def Tryd.cf37 : CF := ⟨2,(cSeq (cOps [⟨some 2,true,none,iBox 78 (.t 0)⟩,
 ⟨some 3,true,none,iBox 78 (.t 1)⟩,
 ⟨some 4,true,none,iMov (.c (.bool (.lit false)))⟩])
 (cSeq (cOps [⟨some 5,false,none,iFaddr 0 (.t 2)⟩,
 ⟨some 6,false,none,iLoad (.t 5)⟩,
 ⟨some 7,false,none,iLenS (.t 6)⟩,
 ⟨some 8,false,none,iFaddr 0 (.t 3)⟩,
 ⟨some 9,false,none,iLoad (.t 8)⟩,
 ⟨some 10,false,none,iLenS (.t 9)⟩,
 ⟨some 11,false,none,iCmp .lss (.t 7) (.t 10)⟩,
 ⟨some 4,true,none,iMov (.t 11)⟩])
 cRet)),[.t 4]⟩
noncomputable def Tryd.kp38 : List Nat := [0,1,2,4,5,6,7,18]
noncomputable def Tryd.cf38 : CF := ⟨2,(cSeq (cOps [⟨some 2,true,none,iBox 52 (.t 0)⟩,
 ⟨some 4,true,none,iMov (.c (.int .i64 (.lit 0)))⟩,
 ⟨some 5,true,none,iMov (.c (.int .i64 (.lit 0)))⟩])
 (cSeq (cOps [⟨some 8,false,none,iFaddr 0 (.t 2)⟩,
 ⟨some 9,false,none,iFaddr 11 (.t 8)⟩,
 ⟨none,false,none,iStore 1 (.t 9) (.c (.int .i64 (.lit 6)))⟩])
 (cSeq (cOps [⟨some 11,false,none,iLoadN 14 (.t 2)⟩,
 ⟨some 12,false,none,iMov (.t 1)⟩,
 ⟨some 13,false,none,iBuild [(.int .i64 (.lit 0)),.nilFunc] [(0,1,(.t 12)),(1,1,(.c (.func (.func 55) [] [])))]⟩,
 ⟨some 14,false,none,iCall (.c (.func (.func 19) [] [])) [(.t 11),(.t 13)]⟩,
 ⟨some 10,false,none,iMov (.t 14)⟩,
 ⟨some 15,false,none,iExtract 0 (.t 10)⟩,
 ⟨some 16,false,none,iExtract 1 (.t 10)⟩,
 ⟨some 6,true,none,iMov (.t 15)⟩,
 ⟨some 7,true,none,iMov (.t 16)⟩])
 (cSeq (cSeq (cOps [⟨some 17,false,none,iMov (.t 7)⟩,
 ⟨some 18,true,none,iCmp .neq (.t 17) (.c (.int .i64 (.lit 0)))⟩])
 (cCond (.t 18) (cSeq (cOps [⟨some 19,false,none,iMov (.t 7)⟩,
 ⟨some 4,true,none,iMov (.c (.int .i64 (.lit 0)))⟩,
 ⟨some 5,true,none,iMov (.t 19)⟩])
 cRet) cSkip))
 (cSeq (cOps [⟨some 20,false,none,iMov (.t 6)⟩,
 ⟨some 21,false,none,iCall (.c (.func (.func 56) [] [])) [(.t 20)]⟩,
 ⟨some 4,true,none,iMov (.t 21)⟩,
 ⟨some 5,true,none,iMov (.c (.int .i64 (.lit 0)))⟩])
 cRet))))),[.t 4,.t 5]⟩
noncomputable def Tryd.ra39017 : C := (cOps [⟨some 6,true,none,iMov (.t 17)⟩])
noncomputable def Tryd.rb39017 : C := (cBlock 1 (cSeq (cOps [⟨some 18,false,none,iMov (.t 6)⟩,
 ⟨some 19,false,none,iCall (.c (.func (.func 42) [] [])) [(.t 18)]⟩,
 ⟨none,false,none,iStore 1 (.t 2) (.t 19)⟩,
 ⟨none,false,none,iStore 1 (.t 3) (.c (.int .i64 (.lit 0)))⟩])
 cRet))
noncomputable def Tryd.kp39 : List Nat := [0,1,2,3,4,5,6,13,16,17]
noncomputable def Tryd.cf39 : CF := ⟨1,(cSeq (cOps [⟨some 1,true,none,iBox 26 (.t 0)⟩,
 ⟨some 2,true,none,iAlloc 29 [.nilslice]⟩,
 ⟨some 3,true,none,iAlloc 30 [(.int .i64 (.lit 0))]⟩])
 (cSeq (cOps [⟨some 8,false,none,iLoadN 6 (.t 1)⟩,
 ⟨some 9,false,none,iCall (.c (.func (.func 57) [] [])) [(.t 8)]⟩,
 ⟨some 7,false,none,iMov (.t 9)⟩,
 ⟨some 10,false,none,iExtract 0 (.t 7)⟩,
 ⟨some 11,false,none,iExtract 1 (.t 7)⟩,
 ⟨some 4,true,none,iAlloc 98 [.nilslice,(.int .i64 (.lit 0)),(.int .i64 (.lit 0)),(.int .i64 (.lit 0)),(.int .i64 (.lit 0)),(.int .i64 (.lit 0)),.nilmap]⟩,
 ⟨none,false,none,iStore 7 (.t 4) (.t 10)⟩,
 ⟨some 5,true,none,iMov (.t 11)⟩])
 (cSeq (cSeq (cOps [⟨some 12,false,none,iMov (.t 5)⟩,
 ⟨some 13,true,none,iCmp .neq (.t 12) (.c (.int .i64 (.lit 0)))⟩])
 (cCond (.t 13) (cSeq (cOps [⟨some 14,false,none,iMov (.t 5)⟩,
 ⟨none,false,none,iStore 1 (.t 2) (.c .nilslice)⟩,
 ⟨none,false,none,iStore 1 (.t 3) (.t 14)⟩])
 cRet) cSkip))
 (cSeq (cSeq (cOps [⟨some 15,false,none,iLoadN 7 (.t 4)⟩,
 ⟨some 16,true,none,iCall (.c (.func (.func 58) [] [])) [(.t 15)]⟩])
 (cBlock 0 (cRange (.t 16) [17] 39017)))
 (cSeq (cOps [⟨none,false,none,iStore 1 (.t 2) (.c .nilslice)⟩,
 ⟨none,false,none,iStore 1 (.t 3) (.c (.int .i64 (.lit 4)))⟩])
 cRet))))),[.cell 2 false 1,.cell 3 false 1]⟩
noncomputable def Tryd.kp40 : List Nat := [0,1,2,3,4,5,6,11,12,13,21,27,28,29,37]
noncomputable def Tryd.cf40 : CF := ⟨1,(cSeq (cOps [⟨some 1,true,none,iBox 28 (.t 0)⟩,
 ⟨some 2,true,none,iMov (.c (.bool (.lit false)))⟩])
 (cSeq (cSeq (cOps [⟨some 7,false,none,iFaddr 6 (.t 1)⟩,
 ⟨some 8,false,none,iLoad (.t 7)⟩,
 ⟨some 9,false,none,iFaddr 11 (.t 1)⟩,
 ⟨some 10,false,none,iLoad (.t 9)⟩,
 ⟨some 11,true,none,iBuild [(.int .i64 (.lit 0)),(.int .i64 (.lit 0))] [(0,1,(.t 8)),(1,1,(.t 10))]⟩,
 ⟨some 12,true,none,iMov (.c (.int .i64 (.lit 0)))⟩])
 (cBlock 0 (cLoop (cSeq (cOps [⟨some 13,true,none,iCmp .lss (.t 12) (.c (.int .i64 (.lit 2)))⟩])
 (cSeq (cCond (.t 13) cSkip (cExit 0))
 (cSeq (cBlock 1 (cSeq (cOps [⟨some 14,false,none,iMov (.t 12)⟩,
 ⟨some 15,false,none,iIndex false 1 2 (.t 11) (.t 12)⟩,
 ⟨some 3,true,none,iMov (.t 14)⟩,
 ⟨some 4,true,none,iMov (.t 15)⟩])
 (cSeq (cOps [⟨some 16,false,none,iMov (.t 4)⟩,
 ⟨some 17,false,none,iMov (.t 3)⟩,
 ⟨some 18,false,none,iIaddrA 2 2 (.c (.ptr 0 0)) (.t 17)⟩,
 ⟨some 19,false,none,iLoadN 2 (.t 18)⟩,
 ⟨some 20,false,none,iCall (.c (.func (.func 59) [] [])) [(.t 16),(.t 19)]⟩,
 ⟨some 21,true,none,iNot (.t 20)⟩])
 (cCond (.t 21) (cSeq (cOps [⟨some 2,true,none,iMov (.c (.bool (.lit false)))⟩])
 cRet) cSkip))))
 (cOps [⟨some 22,false,none,iArith .add (.t 12) (.c (.int .i64 (.lit 1)))⟩,
 ⟨some 12,true,none,iMov (.t 22)⟩])))))))
 (cSeq (cSeq (cOps [⟨some 23,false,none,iFaddr 7 (.t 1)⟩,
 ⟨some 24,false,none,iLoadN 2 (.t 23)⟩,
 ⟨some 25,false,none,iFaddr 9 (.t 1)⟩,
 ⟨some 26,false,none,iLoadN 2 (.t 25)⟩,
 ⟨some 27,true,none,iBuild [(.int .i64 (.lit 0)),(.int .i64 (.lit 0)),(.int .i64 (.lit 0)),(.int .i64 (.lit 0))] [(0,2,(.t 24)),(2,2,(.t 26))]⟩,
 ⟨some 28,true,none,iMov (.c (.int .i64 (.lit 0)))⟩])
 (cBlock 2 (cLoop (cSeq (cOps [⟨some 29,true,none,iCmp .lss (.t 28) (.c (.int .i64 (.lit 2)))⟩])
 (cSeq (cCond (.t 29) cSkip (cExit 2))
 (cSeq (cBlock 3 (cSeq (cOps [⟨some 30,false,none,iMov (.t 28)⟩,
 ⟨some 31,false,none,iIndex true 2 2 (.t 27) (.t 28)⟩,
 ⟨some 6,true,none,iAlloc 24 [(.int .i64 (.lit 0)),(.int .i64 (.lit 0))]⟩,
 ⟨some 5,true,none,iMov (.t 30)⟩,
 ⟨none,false,none,iStore 2 (.t 6) (.t 31)⟩])
 (cSeq (dOps 0 [⟨⟨some 32,false,none,iLoadN 2 (.t 6)⟩,[6],false,0,0,none,[]⟩,
 ⟨⟨some 33,false,none,iMov (.t 5)⟩,[5],false,0,0,none,[]⟩,
 ⟨⟨some 34,false,none,iIaddrA 2 2 (.c (.ptr 1 0)) (.t 33)⟩,[33],false,0,0,none,[]⟩,
 ⟨⟨some 35,false,none,iLoadN 2 (.t 34)⟩,[34],false,0,0,none,[]⟩,
 ⟨⟨some 36,false,none,iCall (.c (.func (.func 60) [] [])) [(.t 32),(.t 35)]⟩,[32,35],true,0,0,none,[]⟩,
 ⟨⟨some 37,true,none,iNot (.t 36)⟩,[36],false,1,1,none,[]⟩])
 (cCond (.t 37) (cSeq (cOps [⟨some 2,true,none,iMov (.c (.bool (.lit false)))⟩])
 cRet) cSkip))))
 (cOps [⟨some 38,false,none,iArith .add (.t 28) (.c (.int .i64 (.lit 1)))⟩,
 ⟨some 28,true,none,iMov (.t 38)⟩])))))))
 (cSeq (cOps [⟨some 2,true,none,iMov (.c (.bool (.lit true)))⟩])
 cRet)))),[.t 2]⟩
noncomputable def Tryd.kp41 : List Nat := [0,1,2]
noncomputable def Tryd.cf41 : CF := ⟨1,(cSeq (cOps [⟨some 1,true,none,iBox 52 (.t 0)⟩,
 ⟨some 2,true,none,iMov (.c .nilFunc)⟩])
 (cSeq (cOps [⟨some 3,false,none,iFunc (.func 61) [] [(.t 1)]⟩,
 ⟨some 2,true,none,iMov (.t 3)⟩])
 cRet)),[.t 2]⟩
noncomputable def Tryd.kp42 : List Nat := [0,2,4]
noncomputable def Tryd.cf42 : CF := ⟨1,(cSeq (cOps [⟨some 2,true,none,iMov (.c .nilslice)⟩])
 (cSeq (cSeq (cOps [⟨some 3,false,none,iMov (.t 0)⟩,
 ⟨some 4,true,none,iEq false false 1 [(0,.nilS)] (.t 3) (.c .nilslice)⟩])
 (cCond (.t 4) (cSeq (cOps [⟨some 2,true,none,iMov (.c .nilslice)⟩])
 cRet) cSkip))
 (cSeq (cOps [⟨some 5,false,none,iBslice 3 [(.int .i64 (.lit 0))] 0 []⟩,
 ⟨some 6,false,none,iMov (.t 0)⟩,
 ⟨some 7,false,none,iAppend 3 1 8 (.t 5) (.t 6)⟩,
 ⟨some 2,true,none,iMov (.t 7)⟩])
 cRet))),[.t 2]⟩
noncomputable def Tryd.kp43 : List Nat := [0,1,2,4,5,6,16,18,19,20,21,26,32,33,34,42]
noncomputable def Tryd.cf43 : CF := ⟨1,(cSeq (cOps [⟨some 1,true,none,iBox 26 (.t 0)⟩,
 ⟨some 2,true,none,iMov (.c (.bool (.lit false)))⟩])
 (cSeq (cSeq (cOps [⟨some 7,false,none,iFaddr 0 (.t 1)⟩,
 ⟨some 8,false,none,iLoad (.t 7)⟩,
 ⟨some 9,false,none,iLenS (.t 8)⟩,
 ⟨some 10,false,none,iCmp .lss (.t 9) (.c (.int .i64 (.lit 1)))⟩,
 ⟨some 11,false,none,iMov (.t 10)⟩,
 ⟨some 12,false,some (11,false),iFaddr 0 (.t 1)⟩,
 ⟨some 13,false,some (11,false),iLoad (.t 12)⟩,
 ⟨some 14,false,some (11,false),iLenS (.t 13)⟩,
 ⟨some 15,false,some (11,false),iCmp .gtr (.t 14) (.c (.int .i64 (.lit 6)))⟩,
 ⟨some 16,true,none,iPick (.t 11) (.c (.bool (.lit true))) (.t 15)⟩])
 (cCond (.t 16) (cSeq (cOps [⟨some 2,true,none,iMov (.c (.bool (.lit false)))⟩])
 cRet) cSkip))
 (cSeq (cSeq (cOps [⟨some 17,false,none,iFaddr 0 (.t 1)⟩,
 ⟨some 18,true,none,iLoad (.t 17)⟩,
 ⟨some 19,true,none,iLenS (.t 18)⟩,
 ⟨some 20,true,none,iMov (.c (.int .i64 (.lit 0)))⟩])
 (cBlock 0 (cLoop (cSeq (cOps [⟨some 21,true,none,iCmp .lss (.t 20) (.t 19)⟩])
 (cSeq (cCond (.t 21) cSkip (cExit 0))
 (cSeq (cBlock 1 (cSeq (cOps [⟨some 22,false,none,iIaddr 6 (.t 18) (.t 20)⟩,
 ⟨some 23,false,none,iLoadN 6 (.t 22)⟩,
 ⟨some 4,true,none,iAlloc 107 [(.int .i64 (.lit 0)),(.int .i64 (.lit 0)),(.int .i64 (.lit 0)),(.int .i64 (.lit 0)),(.int .i64 (.lit 0)),(.int .i64 (.lit 0))]⟩,
 ⟨none,false,none,iStore 6 (.t 4) (.t 23)⟩])
 (cSeq (cOps [⟨some 24,false,none,iLoadN 6 (.t 4)⟩,
 ⟨some 25,false,none,iCall (.c (.func (.func 63) [] [])) [(.t 24)]⟩,
 ⟨some 26,true,none,iNot (.t 25)⟩])
 (cCond (.t 26) (cSeq (cOps [⟨some 2,true,none,iMov (.c (.bool (.lit false)))⟩])
 cRet) cSkip))))
 (cOps [⟨some 27,false,none,iArith .add (.t 20) (.c (.int .i64 (.lit 1)))⟩,
 ⟨some 20,true,none,iMov (.t 27)⟩])))))))
 (cSeq (cSeq (cOps [⟨some 28,false,none,iFaddr 1 (.t 1)⟩,
 ⟨some 29,false,none,iLoadN 2 (.t 28)⟩,
 ⟨some 30,false,none,iFaddr 3 (.t 1)⟩,
 ⟨some 31,false,none,iLoadN 2 (.t 30)⟩,
 ⟨some 32,true,none,iBuild [(.int .i64 (.lit 0)),(.int .i64 (.lit 0)),(.int .i64 (.lit 0)),(.int .i64 (.lit 0))] [(0,2,(.t 29)),(2,2,(.t 31))]⟩,
 ⟨some 33,true,none,iMov (.c (.int .i64 (.lit 0)))⟩])
 (cBlock 2 (cLoop (cSeq (cOps [⟨some 34,true,none,iCmp .lss (.t 33) (.c (.int .i64 (.lit 2)))⟩])
 (cSeq (cCond (.t 34) cSkip (cExit 2))
 (cSeq (cBlock 3 (cSeq (cOps [⟨some 35,false,none,iMov (.t 33)⟩,
 ⟨some 36,false,none,iIndex true 2 2 (.t 32) (.t 33)⟩,
 ⟨some 6,true,none,iAlloc 24 [(.int .i64 (.lit 0)),(.int .i64 (.lit 0))]⟩,
 ⟨some 5,true,none,iMov (.t 35)⟩,
 ⟨none,false,none,iStore 2 (.t 6) (.t 36)⟩])
 (cSeq (dOps 0 [⟨⟨some 37,false,none,iLoadN 2 (.t 6)⟩,[6],false,0,0,none,[]⟩,
 ⟨⟨some 38,false,none,iMov (.t 5)⟩,[5],false,0,0,none,[]⟩,
 ⟨⟨some 39,false,none,iIaddrA 2 2 (.c (.ptr 2 0)) (.t 38)⟩,[38],false,0,0,none,[]⟩,
 ⟨⟨some 40,false,none,iLoadN 2 (.t 39)⟩,[39],false,0,0,none,[]⟩,
 ⟨⟨some 41,false,none,iCall (.c (.func (.func 64) [] [])) [(.t 37),(.t 40)]⟩,[37,40],true,0,0,none,[]⟩,
 ⟨⟨some 42,true,none,iNot (.t 41)⟩,[41],false,1,1,none,[]⟩])
 (cCond (.t 42) (cSeq (cOps [⟨some 2,true,none,iMov (.c (.bool (.lit false)))⟩])
 cRet) cSkip))))
 (cOps [⟨some 43,false,none,iArith .add (.t 33) (.c (.int .i64 (.lit 1)))⟩,
 ⟨some 33,true,none,iMov (.t 43)⟩])))))))
 (cSeq (cOps [⟨some 44,false,none,iFaddr 5 (.t 1)⟩,
 ⟨some 45,false,none,iLoad (.t 44)⟩,
 ⟨some 46,false,none,iCmp .geq (.t 45) (.c (.int .i64 (.lit 1)))⟩,
 ⟨some 47,false,none,iMov (.t 46)⟩,
 ⟨some 48,false,some (47,true),iFaddr 5 (.t 1)⟩,
 ⟨some 49,false,some (47,true),iLoad (.t 48)⟩,
 ⟨some 50,false,some (47,true),iCmp .leq (.t 49) (.c (.int .i64 (.lit 6000)))⟩,
 ⟨some 51,false,none,iPick (.t 47) (.t 50) (.c (.bool (.lit false)))⟩,
 ⟨some 2,true,none,iMov (.t 51)⟩])
 cRet))))),[.t 2]⟩
noncomputable def Tryd.kp44 : List Nat := [0,1,2,4,5,7,11,12,13,14,25]
noncomputable def Tryd.cf44 : CF := ⟨2,(cSeq (cOps [⟨some 2,true,none,iBox 52 (.t 0)⟩,
 ⟨some 4,true,none,iMov (.c (.bool (.lit false)))⟩])
 (cSeq (cOps [⟨some 8,false,none,iFaddr 12 (.t 2)⟩,
 ⟨some 9,false,none,iLoad (.t 8)⟩,
 ⟨some 10,false,none,iLenS (.t 9)⟩,
 ⟨some 5,true,none,iMov (.t 10)⟩])
 (cSeq (cSeq (cOps [⟨some 11,true,none,iMov (.t 1)⟩,
 ⟨some 12,true,none,iLenS (.t 11)⟩,
 ⟨some 13,true,none,iMov (.c (.int .i64 (.lit 0)))⟩])
 (cBlock 0 (cLoop (cSeq (cOps [⟨some 14,true,none,iCmp .lss (.t 13) (.t 12)⟩])
 (cSeq (cCond (.t 14) cSkip (cExit 0))
 (cSeq (cBlock 1 (cSeq (cOps [⟨some 15,false,none,iIaddr 1 (.t 11) (.t 13)⟩,
 ⟨some 16,false,none,iLoad (.t 15)⟩,
 ⟨some 7,true,none,iMov (.t 16)⟩])
 (cSeq (cSeq (cOps [⟨some 17,false,none,iMov (.t 7)⟩,
 ⟨some 18,false,none,iCmp .lss (.t 17) (.c (.int .i64 (.lit 1)))⟩,
 ⟨some 19,false,none,iMov (.t 18)⟩,
 ⟨some 20,false,some (19,false),iMov (.t 7)⟩,
 ⟨some 21,false,some (19,false),iFaddr 0 (.t 2)⟩,
 ⟨some 22,false,some (19,false),iFaddr 11 (.t 21)⟩,
 ⟨some 23,false,some (19,false),iLoad (.t 22)⟩,
 ⟨some 24,false,some (19,false),iCmp .gtr (.t 20) (.t 23)⟩,
 ⟨some 25,true,none,iPick (.t 19) (.c (.bool (.lit true))) (.t 24)⟩])
 (cCond (.t 25) (cSeq (cOps [⟨some 4,true,none,iMov (.c (.bool (.lit false)))⟩])
 cRet) cSkip))
 (cOps [⟨some 26,false,none,iMov (.t 5)⟩,
 ⟨some 27,false,none,iMov (.t 7)⟩,
 ⟨some 28,false,none,iArith .sub (.t 26) (.t 27)⟩,
 ⟨some 5,true,none,iMov (.t 28)⟩]))))
 (cOps [⟨some 29,false,none,iArith .add (.t 13) (.c (.int .i64 (.lit 1)))⟩,
 ⟨some 13,true,none,iMov (.t 29)⟩])))))))
 (cSeq (cOps [⟨some 30,false,none,iMov (.t 5)⟩,
 ⟨some 31,false,none,iCmp .eql (.t 30) (.c (.int .i64 (.lit 0)))⟩,
 ⟨some 4,true,none,iMov (.t 31)⟩])
 cRet)))),[.t 4]⟩
noncomputable def Tryd.kp45 : List Nat := [0,2,3,4,11]
noncomputable def Tryd.cf45 : CF := ⟨1,(cSeq (cOps [⟨some 2,true,none,iAlloc 26 [.nilslice,(.int .i64 (.lit 0)),(.int .i64 (.lit 0)),(.int .i64 (.lit 0)),(.int .i64 (.lit 0)),(.int .i64 (.lit 0))]⟩])
 (cSeq (cOps [⟨some 5,false,none,iCall (.c (.func (.func 17) [] [])) [(.c (.int .i64 (.lit 6))),(.c (.int .i64 (.lit 8)))]⟩,
 ⟨some 6,false,none,iCall (.c (.func (.func 17) [] [])) [(.c (.int .i64 (.lit 1))),(.c (.int .i64 (.lit 3)))]⟩,
 ⟨some 7,false,none,iBuild [.nilslice,(.int .i64 (.lit 0)),(.int .i64 (.lit 0)),(.int .i64 (.lit 0)),(.int .i64 (.lit 0)),(.int .i64 (.lit 0))] [(1,2,(.t 5)),(3,2,(.t 6)),(5,1,(.c (.int .i64 (.lit 2000))))]⟩,
 ⟨some 3,true,none,iAlloc 26 [.nilslice,(.int .i64 (.lit 0)),(.int .i64 (.lit 0)),(.int .i64 (.lit 0)),(.int .i64 (.lit 0)),(.int .i64 (.lit 0))]⟩,
 ⟨none,false,none,iStore 6 (.t 3) (.t 7)⟩])
 (cSeq (cSeq (cOps [⟨some 4,true,none,iMov (.c (.int .i64 (.lit 0)))⟩])
 (cBlock 0 (cLoop (cSeq (cSeq (cOps [⟨some 8,false,none,iMov (.t 4)⟩,
 ⟨some 9,false,none,iMov (.t 0)⟩,
 ⟨some 10,false,none,iLenS (.t 9)⟩,
 ⟨some 11,true,none,iCmp .lss (.t 8) (.t 10)⟩])
 (cCond (.t 11) cSkip (cExit 0)))
 (cSeq (cBlock 1 (dOps 0 [⟨⟨some 14,false,none,iFaddr 0 (.t 3)⟩,[3],false,0,4,none,[]⟩,
 ⟨⟨some 15,false,none,iLoad (.t 14)⟩,[14],false,0,4,none,[]⟩,
 ⟨⟨some 16,false,none,iMov (.t 4)⟩,[4],false,0,0,none,[]⟩,
 ⟨⟨some 17,false,none,iArith .mul (.c (.int .i64 (.lit 4))) (.t 16)⟩,[16],false,0,0,none,[]⟩,
 ⟨⟨some 18,false,none,iArith .add (.t 17) (.c (.int .i64 (.lit 1)))⟩,[17],false,0,0,none,[]⟩,
 ⟨⟨some 19,false,none,iCall (.c (.func (.func 46) [] [])) [(.t 18)]⟩,[18],true,0,0,none,[]⟩,
 ⟨⟨some 20,false,none,iMov (.t 4)⟩,[4],false,0,1,none,[]⟩,
 ⟨⟨some 21,false,none,iArith .mul (.c (.int .i64 (.lit 4))) (.t 20)⟩,[20],false,0,1,none,[]⟩,
 ⟨⟨some 22,false,none,iArith .add (.t 21) (.c (.int .i64 (.lit 4)))⟩,[21],false,0,1,none,[]⟩,
 ⟨⟨some 23,false,none,iCall (.c (.func (.func 46) [] [])) [(.t 22)]⟩,[22],true,1,0,none,[]⟩,
 ⟨⟨some 24,false,none,iMov (.t 0)⟩,[0],false,0,2,none,[]⟩,
 ⟨⟨some 25,false,none,iMov (.t 4)⟩,[4],false,0,2,none,[]⟩,
 ⟨⟨some 26,false,none,iIaddr 1 (.t 24) (.t 25)⟩,[24,25],false,0,2,none,[]⟩,
 ⟨⟨some 27,false,none,iLoad (.t 26)⟩,[26],false,0,2,none,[]⟩,
 ⟨⟨some 28,false,none,iCall (.c (.func (.func 46) [] [])) [(.t 27)]⟩,[27],true,2,0,none,[]⟩,
 ⟨⟨some 29,false,none,iBuild [(.int .i64 (.lit 0)),(.int .i64 (.lit 0)),(.int .i64 (.lit 0)),(.int .i64 (.lit 0)),(.int .i64 (.lit 0)),(.int .i64 (.lit 0))] [(0,2,(.t 19)),(2,2,(.t 23)),(4,2,(.t 28))]⟩,[19,23,28],false,3,3,none,[]⟩,
 ⟨⟨some 30,false,none,iBslice 107 [(.int .i64 (.lit 0)),(.int .i64 (.lit 0)),(.int .i64 (.lit 0)),(.int .i64 (.lit 0)),(.int .i64 (.lit 0)),(.int .i64 (.lit 0))] 1 [(0,6,(.t 29))]⟩,[29],true,3,0,none,[]⟩,
 ⟨⟨some 31,false,none,iAppend 107 6 48 (.t 15) (.t 30)⟩,[15,30],true,4,0,none,[]⟩,
 ⟨⟨some 32,false,none,iFaddr 0 (.t 3)⟩,[3],false,5,5,none,[]⟩,
 ⟨⟨none,false,none,iStore 1 (.t 32) (.t 31)⟩,[32,31],true,5,0,none,[]⟩]))
 (cOps [⟨some 12,false,none,iMov (.t 4)⟩,
 ⟨some 13,false,none,iArith .add (.t 12) (.c (.int .i64 (.lit 1)))⟩,
 ⟨some 4,true,none,iMov (.t 13)⟩]))))))
 (cSeq (cOps [⟨some 33,false,none,iLoadN 6 (.t 3)⟩,
 ⟨none,false,none,iStore 6 (.t 2) (.t 33)⟩])
 cRet)))),[.cell 2 true 6]⟩
noncomputable def Tryd.kp46 : List Nat := [0,2]
noncomputable def Tryd.cf46 : CF := ⟨1,(cSeq (cOps [⟨some 2,true,none,iAlloc 24 [(.int .i64 (.lit 0)),(.int .i64 (.lit 0))]⟩])
 (cSeq (cOps [⟨some 3,false,none,iMov (.t 0)⟩,
 ⟨some 4,false,none,iMov (.t 0)⟩,
 ⟨some 5,false,none,iCall (.c (.func (.func 17) [] [])) [(.t 3),(.t 4)]⟩,
 ⟨none,false,none,iStore 2 (.t 2) (.t 5)⟩])
 cRet)),[.cell 2 true 2]⟩
noncomputable def Tryd.kp47 : List Nat := [0,1,2,3,6,7]
noncomputable def Tryd.cf47 : CF := ⟨3,(cSeq (cOps [⟨some 3,true,none,iBox 52 (.t 0)⟩,
 ⟨some 6,true,none,iAlloc 90 [.nilslice,(.int .i64 (.lit 0)),(.int .i64 (.lit 0)),(.int .i64 (.lit 0)),(.int .i64 (.lit 0)),(.int .i64 (.lit 0)),(.int .i64 (.lit 0)),(.int .i64 (.lit 0)),(.int .i64 (.lit 0)),(.int .i64 (.lit 0)),(.int .i64 (.lit 0)),(.int .i64 (.lit 0)),.nilslice,.nilmap,.nilFunc,.nilFunc]⟩])
 (cSeq (cOps [⟨some 8,false,none,iBuild [.nilFunc,.nilFunc] [(0,1,(.c (.func (.func 65) [] []))),(1,1,(.c (.func (.func 66) [] [])))]⟩,
 ⟨some 7,true,none,iAlloc 88 [.nilFunc,.nilFunc]⟩,
 ⟨none,false,none,iStore 2 (.t 7) (.t 8)⟩])
 (cSeq (dOps 0 [⟨⟨some 9,false,none,iLoadN 14 (.t 3)⟩,[3],false,0,0,none,[]⟩,
 ⟨⟨some 10,false,none,iMov (.t 1)⟩,[1],false,0,0,none,[]⟩,
 ⟨⟨some 11,false,none,iIaddrA 1 2 (.t 7) (.t 10)⟩,[7,10],false,0,0,none,[]⟩,
 ⟨⟨some 12,false,none,iLoad (.t 11)⟩,[11],false,0,0,none,[]⟩,
 ⟨⟨some 13,false,none,iMov (.t 2)⟩,[2],false,0,0,none,[]⟩,
 ⟨⟨some 14,false,none,iIaddrA 1 2 (.t 7) (.t 13)⟩,[7,13],false,0,0,none,[]⟩,
 ⟨⟨some 15,false,none,iLoad (.t 14)⟩,[14],false,0,0,none,[]⟩,
 ⟨⟨some 16,false,none,iBuild [.nilFunc,.nilFunc] [(0,1,(.t 12)),(1,1,(.t 15))]⟩,[12,15],false,0,0,none,[]⟩,
 ⟨⟨some 17,false,none,iBuild [.nilslice,(.int .i64 (.lit 0)),(.int .i64 (.lit 0)),(.int .i64 (.lit 0)),(.int .i64 (.lit 0)),(.int .i64 (.lit 0)),(.int .i64 (.lit 0)),(.int .i64 (.lit 0)),(.int .i64 (.lit 0)),(.int .i64 (.lit 0)),(.int .i64 (.lit 0)),(.int .i64 (.lit 0)),.nilslice,.nilmap,.nilFunc,.nilFunc] [(0,14,(.t 9)),(14,2,(.t 16))]⟩,[9,16],false,0,0,none,[]⟩,
 ⟨⟨none,false,none,iStore 16 (.t 6) (.t 17)⟩,[6,17],true,0,0,none,[]⟩])
 cRet))),[.cell 6 true 16]⟩
noncomputable def Tryd.kp48 : List Nat := [0,1,2,4,5,6,8,9,10,11,12,13,34,35,36]
noncomputable def Tryd.cf48 : CF := ⟨2,(cSeq (cOps [⟨some 2,true,none,iBox 90 (.t 0)⟩,
 ⟨some 4,true,none,iMov (.c .nilslice)⟩])
 (cSeq (cOps [⟨some 5,true,none,iMov (.c (.int .i64 (.lit 0)))⟩,
 ⟨some 6,true,none,iMov (.c (.int .i64 (.lit 0)))⟩])
 (cSeq (cSeq (cOps [⟨some 10,true,none,iMov (.t 1)⟩,
 ⟨some 11,true,none,iLenS (.t 10)⟩,
 ⟨some 12,true,none,iMov (.c (.int .i64 (.lit 0)))⟩])
 (cBlock 0 (cLoop (cSeq (cOps [⟨some 13,true,none,iCmp .lss (.t 12) (.t 11)⟩])
 (cSeq (cCond (.t 13) cSkip (cExit 0))
 (cSeq (cBlock 1 (cSeq (cOps [⟨some 14,false,none,iIaddr 1 (.t 10) (.t 12)⟩,
 ⟨some 15,false,none,iLoad (.t 14)⟩,
 ⟨some 8,true,none,iMov (.t 15)⟩])
 (cSeq (cOps [⟨some 16,false,none,iMov (.t 6)⟩,
 ⟨some 17,false,none,iMov (.t 8)⟩,
 ⟨some 18,false,none,iArith .add (.t 16) (.t 17)⟩,
 ⟨some 6,true,none,iMov (.t 18)⟩])
 (cSeq (dOps 0 [⟨⟨some 19,false,none,iMov (.t 5)⟩,[5],false,0,3,none,[]⟩,
 ⟨⟨some 20,false,none,iLoadN 16 (.t 2)⟩,[2],false,0,1,none,[]⟩,
 ⟨⟨some 21,false,none,iLoadN 16 (.t 2)⟩,[2],false,0,0,none,[]⟩,
 ⟨⟨some 22,false,none,iMov (.t 6)⟩,[6],false,0,0,none,[]⟩,
 ⟨⟨some 23,false,none,iCall (.c (.func (.func 69) [] [])) [(.t 21),(.t 22)]⟩,[21,22],true,0,0,none,[]⟩,
 ⟨⟨some 24,false,none,iCall (.c (.func (.func 68) [] [])) [(.t 20),(.t 23),(.c (.int .i64 (.lit 0)))]⟩,[20,23],true,1,0,none,[]⟩,
 ⟨⟨some 25,false,none,iBslice 3 [(.int .i64 (.lit 0))] 1 [(0,1,(.t 24))]⟩,[24],true,2,0,none,[]⟩,
 ⟨⟨some 26,false,none,iCall (.c (.func (.func 67) [] [])) [(.t 19),(.t 25)]⟩,[19,25],true,3,0,none,[]⟩,
 ⟨⟨some 27,false,none,iLoadN 16 (.t 2)⟩,[2],false,0,4,none,[]⟩,
 ⟨⟨some 28,false,none,iFaddr 0 (.t 2)⟩,[2],false,0,4,none,[]⟩,
 ⟨⟨some 29,false,none,iFaddr 0 (.t 28)⟩,[28],false,0,4,none,[]⟩,
 ⟨⟨some 30,false,none,iFaddr 7 (.t 29)⟩,[29],false,0,4,none,[]⟩,
 ⟨⟨some 31,false,none,iLoadN 2 (.t 30)⟩,[30],false,0,4,none,[]⟩,
 ⟨⟨some 32,false,none,iCall (.c (.func (.func 70) [] [])) [(.t 27),(.t 31)]⟩,[27,31],true,4,0,none,[]⟩,
 ⟨⟨some 33,false,none,iArith .add (.t 26) (.t 32)⟩,[26,32],false,5,5,none,[]⟩,
 ⟨⟨some 9,true,none,iMov (.t 33)⟩,[33],false,5,5,none,[]⟩])
 (cSeq (cSeq (cOps [⟨some 34,true,none,iMov (.t 8)⟩,
 ⟨some 35,true,none,iMov (.c (.int .i64 (.lit 0)))⟩])
 (cBlock 2 (cLoop (cSeq (cOps [⟨some 36,true,none,iCmp .lss (.t 35) (.t 34)⟩])
 (cSeq (cCond (.t 36) cSkip (cExit 2))
 (cSeq (cBlock 3 (cOps [⟨some 37,false,none,iMov (.t 4)⟩,
 ⟨some 38,false,none,iMov (.t 9)⟩,
 ⟨some 39,false,none,iBslice 3 [(.int .i64 (.lit 0))] 1 [(0,1,(.t 38))]⟩,
 ⟨some 40,false,none,iAppend 3 1 8 (.t 37) (.t 39)⟩,
 ⟨some 4,true,none,iMov (.t 40)⟩]))
 (cOps [⟨some 41,false,none,iArith .add (.t 35) (.c (.int .i64 (.lit 1)))⟩,
 ⟨some 35,true,none,iMov (.t 41)⟩])))))))
 (cOps [⟨some 42,false,none,iMov (.t 9)⟩,
 ⟨some 43,false,none,iLoadN 16 (.t 2)⟩,
 ⟨some 44,false,none,iFaddr 0 (.t 2)⟩,
 ⟨some 45,false,none,iFaddr 0 (.t 44)⟩,
 ⟨some 46,false,none,iFaddr 9 (.t 45)⟩,
 ⟨some 47,false,none,iLoadN 2 (.t 46)⟩,
 ⟨some 48,false,none,iCall (.c (.func (.func 70) [] [])) [(.t 43),(.t 47)]⟩,
 ⟨some 49,false,none,iArith .add (.t 42) (.t 48)⟩,
 ⟨some 5,true,none,iMov (.t 49)⟩]))))))
 (cOps [⟨some 50,false,none,iArith .add (.t 12) (.c (.int .i64 (.lit 1)))⟩,
 ⟨some 12,true,none,iMov (.t 50)⟩])))))))
 (cSeq (cOps [⟨some 51,false,none,iMov (.t 4)⟩,
 ⟨some 4,true,none,iMov (.t 51)⟩])
 cRet)))),[.t 4]⟩
noncomputable def Tryd.kp49 : List Nat := [0,1,2,3,6,7,8,9,14,15,16,17]
noncomputable def Tryd.cf49 : CF := ⟨3,(cSeq (cOps [⟨some 3,true,none,iBox 90 (.t 0)⟩,
 ⟨some 6,true,none,iMov (.c (.int .i64 (.lit 0)))⟩])
 (cSeq (cOps [⟨some 10,false,none,iMov (.t 2)⟩,
 ⟨some 11,false,none,iArith .mul (.c (.int .i64 (.lit 10))) (.t 10)⟩,
 ⟨some 7,true,none,iMov (.t 11)⟩])
 (cSeq (cSeq (cOps [⟨some 12,false,none,iLoadN 16 (.t 3)⟩,
 ⟨some 13,false,none,iMov (.t 1)⟩,
 ⟨some 14,true,none,iCall (.c (.func (.func 48) [] [])) [(.t 12),(.t 13)]⟩,
 ⟨some 15,true,none,iLenS (.t 14)⟩,
 ⟨some 16,true,none,iMov (.c (.int .i64 (.lit 0)))⟩])
 (cBlock 0 (cLoop (cSeq (cOps [⟨some 17,true,none,iCmp .lss (.t 16) (.t 15)⟩])
 (cSeq (cCond (.t 17) cSkip (cExit 0))
 (cSeq (cBlock 1 (cSeq (cOps [⟨some 18,false,none,iMov (.t 16)⟩,
 ⟨some 19,false,none,iIaddr 1 (.t 14) (.t 16)⟩,
 ⟨some 20,false,none,iLoad (.t 19)⟩,
 ⟨some 8,true,none,iMov (.t 18)⟩,
 ⟨some 9,true,none,iMov (.t 20)⟩])
 (dOps 0 [⟨⟨some 21,false,none,iMov (.t 7)⟩,[7],false,0,1,none,[]⟩,
 ⟨⟨some 22,false,none,iMov (.t 9)⟩,[9],false,0,0,none,[]⟩,
 ⟨⟨some 23,false,none,iBslice 3 [(.int .i64 (.lit 0))] 1 [(0,1,(.t 22))]⟩,[22],true,0,0,none,[]⟩,
 ⟨⟨some 24,false,none,iCall (.c (.func (.func 67) [] [])) [(.t 21),(.t 23)]⟩,[21,23],true,1,0,none,[]⟩,
 ⟨⟨some 25,false,none,iLoadN 16 (.t 3)⟩,[3],false,0,3,none,[]⟩,
 ⟨⟨some 26,false,none,iLoadN 16 (.t 3)⟩,[3],false,0,2,none,[]⟩,
 ⟨⟨some 27,false,none,iMov (.t 8)⟩,[8],false,0,2,none,[]⟩,
 ⟨⟨some 28,false,none,iCall (.c (.func (.func 69) [] [])) [(.t 26),(.t 27)]⟩,[26,27],true,2,0,none,[]⟩,
 ⟨⟨some 29,false,none,iCall (.c (.func (.func 71) [] [])) [(.t 25),(.t 28),(.c (.int .i64 (.lit 1)))]⟩,[25,28],true,3,0,none,[]⟩,
 ⟨⟨some 30,false,none,iArith .add (.t 24) (.t 29)⟩,[24,29],false,4,4,none,[]⟩,
 ⟨⟨some 7,true,none,iMov (.t 30)⟩,[30],false,4,4,none,[]⟩])))
 (cOps [⟨some 31,false,none,iArith .add (.t 16) (.c (.int .i64 (.lit 1)))⟩,
 ⟨some 16,true,none,iMov (.t 31)⟩])))))))
 (cSeq (cOps [⟨some 32,false,none,iMov (.t 7)⟩,
 ⟨some 6,true,none,iMov (.t 32)⟩])
 cRet)))),[.t 6]⟩
noncomputable def Tryd.kp50 : List Nat := [0,1,4,6,7,8,9,10,16]
noncomputable def Tryd.cf50 : CF := ⟨2,(cSeq (cOps [⟨some 4,true,none,iMov (.c (.bool (.lit false)))⟩])
 (cSeq (cSeq (cOps [⟨some 7,true,none,iMov (.t 1)⟩,
 ⟨some 8,true,none,iLenS (.t 7)⟩,
 ⟨some 9,true,none,iMov (.c (.int .i64 (.lit 0)))⟩])
 (cBlock 0 (cLoop (cSeq (cOps [⟨some 10,true,none,iCmp .lss (.t 9) (.t 8)⟩])
 (cSeq (cCond (.t 10) cSkip (cExit 0))
 (cSeq (cBlock 1 (cSeq (cOps [⟨some 11,false,none,iIaddr 1 (.t 7) (.t 9)⟩,
 ⟨some 12,false,none,iLoad (.t 11)⟩,
 ⟨some 6,true,none,iMov (.t 12)⟩])
 (cSeq (cOps [⟨some 13,false,none,iMov (.t 0)⟩,
 ⟨some 14,false,none,iMov (.t 6)⟩,
 ⟨some 15,false,none,iCall (.t 13) [(.t 14)]⟩,
 ⟨some 16,true,none,iNot (.t 15)⟩])
 (cCond (.t 16) (cSeq (cOps [⟨some 4,true,none,iMov (.c (.bool (.lit false)))⟩])
 cRet) cSkip))))
 (cOps [⟨some 17,false,none,iArith .add (.t 9) (.c (.int .i64 (.lit 1)))⟩,
 ⟨some 9,true,none,iMov (.t 17)⟩])))))))
 (cSeq (cOps [⟨some 4,true,none,iMov (.c (.bool (.lit true)))⟩])
 cRet))),[.t 4]⟩
noncomputable def Tryd.kp51 : List Nat := [0,1,4,6,7,8,9,10,16]
noncomputable def Tryd.cf51 : CF := ⟨2,(cSeq (cOps [⟨some 4,true,none,iMov (.c (.bool (.lit false)))⟩])
 (cSeq (cSeq (cOps [⟨some 7,true,none,iMov (.t 1)⟩,
 ⟨some 8,true,none,iLenS (.t 7)⟩,
 ⟨some 9,true,none,iMov (.c (.int .i64 (.lit 0)))⟩])
 (cBlock 0 (cLoop (cSeq (cOps [⟨some 10,true,none,iCmp .lss (.t 9) (.t 8)⟩])
 (cSeq (cCond (.t 10) cSkip (cExit 0))
 (cSeq (cBlock 1 (cSeq (cOps [⟨some 11,false,none,iIaddr 1 (.t 7) (.t 9)⟩,
 ⟨some 12,false,none,iLoad (.t 11)⟩,
 ⟨some 6,true,none,iMov (.t 12)⟩])
 (cSeq (cOps [⟨some 13,false,none,iMov (.t 0)⟩,
 ⟨some 14,false,none,iMov (.t 6)⟩,
 ⟨some 15,false,none,iCall (.t 13) [(.t 14)]⟩,
 ⟨some 16,true,none,iNot (.t 15)⟩])
 (cCond (.t 16) (cSeq (cOps [⟨some 4,true,none,iMov (.c (.bool (.lit false)))⟩])
 cRet) cSkip))))
 (cOps [⟨some 17,false,none,iArith .add (.t 9) (.c (.int .i64 (.lit 1)))⟩,
 ⟨some 9,true,none,iMov (.t 17)⟩])))))))
 (cSeq (cOps [⟨some 4,true,none,iMov (.c (.bool (.lit true)))⟩])
 cRet))),[.t 4]⟩
noncomputable def Tryd.kp52 : List Nat := [0,2]
noncomputable def Tryd.cf52 : CF := ⟨1,(cSeq (cOps [⟨some 2,true,none,iMov (.c (.bool (.lit false)))⟩])
 (cSeq (cOps [⟨some 3,false,none,iMov (.t 0)⟩,
 ⟨some 4,false,none,iCmp .geq (.t 3) (.c (.int .i64 (.lit 0)))⟩,
 ⟨some 5,false,none,iMov (.t 4)⟩,
 ⟨some 6,false,some (5,true),iMov (.t 0)⟩,
 ⟨some 7,false,some (5,true),iCmp .leq (.t 6) (.c (.int .i64 (.lit 99999)))⟩,
 ⟨some 8,false,none,iPick (.t 5) (.t 7) (.c (.bool (.lit false)))⟩,
 ⟨some 2,true,none,iMov (.t 8)⟩])
 cRet)),[.t 2]⟩
noncomputable def Tryd.kp53 : List Nat := [0,2]
noncomputable def Tryd.cf53 : CF := ⟨1,(cSeq (cOps [⟨some 2,true,none,iMov (.c (.int .i64 (.lit 0)))⟩])
 (cSeq (cOps [⟨some 3,false,none,iMov (.t 0)⟩,
 ⟨some 4,false,none,iArith .add (.t 3) (.c (.int .i64 (.lit 10)))⟩,
 ⟨some 5,false,none,iArith .sub (.t 4) (.c (.int .i64 (.lit 1)))⟩,
 ⟨some 6,false,none,iArith .quo (.t 5) (.c (.int .i64 (.lit 10)))⟩,
 ⟨some 2,true,none,iMov (.t 6)⟩])
 cRet)),[.t 2]⟩
noncomputable def Tryd.kp54 : List Nat := [0,1,2,4,5,6,9,10,11,12]
noncomputable def Tryd.cf54 : CF := ⟨2,(cSeq (cOps [⟨some 2,true,none,iBox 90 (.t 0)⟩,
 ⟨some 4,true,none,iMov (.c (.int .i64 (.lit 0)))⟩])
 (cSeq (cSeq (cOps [⟨some 7,false,none,iLoadN 16 (.t 2)⟩,
 ⟨some 8,false,none,iMov (.t 1)⟩,
 ⟨some 9,true,none,iCall (.c (.func (.func 48) [] [])) [(.t 7),(.t 8)]⟩,
 ⟨some 10,true,none,iLenS (.t 9)⟩,
 ⟨some 11,true,none,iMov (.c (.int .i64 (.lit 0)))⟩])
 (cBlock 0 (cLoop (cSeq (cOps [⟨some 12,true,none,iCmp .lss (.t 11) (.t 10)⟩])
 (cSeq (cCond (.t 12) cSkip (cExit 0))
 (cSeq (cBlock 1 (cSeq (cOps [⟨some 13,false,none,iMov (.t 11)⟩,
 ⟨some 14,false,none,iIaddr 1 (.t 9) (.t 11)⟩,
 ⟨some 15,false,none,iLoad (.t 14)⟩,
 ⟨some 5,true,none,iMov (.t 13)⟩,
 ⟨some 6,true,none,iMov (.t 15)⟩])
 (dOps 0 [⟨⟨some 16,false,none,iMov (.t 4)⟩,[4],false,0,3,none,[]⟩,
 ⟨⟨some 17,false,none,iMov (.t 6)⟩,[6],false,0,2,none,[]⟩,
 ⟨⟨some 18,false,none,iLoadN 16 (.t 2)⟩,[2],false,0,1,none,[]⟩,
 ⟨⟨some 19,false,none,iLoadN 16 (.t 2)⟩,[2],false,0,0,none,[]⟩,
 ⟨⟨some 20,false,none,iMov (.t 5)⟩,[5],false,0,0,none,[]⟩,
 ⟨⟨some 21,false,none,iCall (.c (.func (.func 69) [] [])) [(.t 19),(.t 20)]⟩,[19,20],true,0,0,none,[]⟩,
 ⟨⟨some 22,false,none,iCall (.c (.func (.func 68) [] [])) [(.t 18),(.t 21),(.c (.int .i64 (.lit 1)))]⟩,[18,21],true,1,0,none,[]⟩,
 ⟨⟨some 23,false,none,iArith .sub (.t 17) (.t 22)⟩,[17,22],false,2,2,none,[]⟩,
 ⟨⟨some 24,false,none,iBslice 3 [(.int .i64 (.lit 0))] 1 [(0,1,(.t 23))]⟩,[23],true,2,0,none,[]⟩,
 ⟨⟨some 25,false,none,iCall (.c (.func (.func 67) [] [])) [(.t 16),(.t 24)]⟩,[16,24],true,3,0,none,[]⟩,
 ⟨⟨some 4,true,none,iMov (.t 25)⟩,[25],false,4,4,none,[]⟩])))
 (cOps [⟨some 26,false,none,iArith .add (.t 11) (.c (.int .i64 (.lit 1)))⟩,
 ⟨some 11,true,none,iMov (.t 26)⟩])))))))
 (cSeq (cOps [⟨some 27,false,none,iMov (.t 4)⟩,
 ⟨some 4,true,none,iMov (.t 27)⟩])
 cRet))),[.t 4]⟩
noncomputable def Tryd.kp55 : List Nat := [0,1,2,3,4]
noncomputable def Tryd.cf55 : CF := ⟨2,(cSeq (cOps [⟨some 2,true,none,iBox 78 (.t 0)⟩,
 ⟨some 3,true,none,iBox 78 (.t 1)⟩,
 ⟨some 4,true,none,iMov (.c (.bool (.lit false)))⟩])
 (cSeq (dOps 0 [⟨⟨some 5,false,none,iFaddr 0 (.t 2)⟩,[2],false,0,0,none,[]⟩,
 ⟨⟨some 6,false,none,iLoad (.t 5)⟩,[5],false,0,0,none,[]⟩,
 ⟨⟨some 7,false,none,iCall (.c (.func (.func 56) [] [])) [(.t 6)]⟩,[6],true,0,0,none,[]⟩,
 ⟨⟨some 8,false,none,iFaddr 0 (.t 3)⟩,[3],false,0,1,none,[]⟩,
 ⟨⟨some 9,false,none,iLoad (.t 8)⟩,[8],false,0,1,none,[]⟩,
 ⟨⟨some 10,false,none,iCall (.c (.func (.func 56) [] [])) [(.t 9)]⟩,[9],true,1,0,none,[]⟩,
 ⟨⟨some 11,false,none,iCmp .lss (.t 7) (.t 10)⟩,[7,10],false,2,2,none,[]⟩,
 ⟨⟨some 4,true,none,iMov (.t 11)⟩,[11],false,2,2,none,[]⟩])
 cRet)),[.t 4]⟩
noncomputable def Tryd.kp56 : List Nat := [0,2]
noncomputable def Tryd.cf56 : CF := ⟨1,(cSeq (cOps [⟨some 2,true,none,iMov (.c (.int .i64 (.lit 0)))⟩])
 (cSeq (cOps [⟨some 3,false,none,iMov (.t 0)⟩,
 ⟨some 4,false,none,iCall (.c (.func (.func 67) [] [])) [(.c (.int .i64 (.lit 1))),(.t 3)]⟩,
 ⟨some 2,true,none,iMov (.t 4)⟩])
 cRet)),[.t 2]⟩
noncomputable def Tryd.kp57 : List Nat := [0,1,2,3,4,8]
noncomputable def Tryd.cf57 : CF := ⟨1,(cSeq (cOps [⟨some 1,true,none,iBox 26 (.t 0)⟩,
 ⟨some 2,true,none,iAlloc 98 [.nilslice,(.int .i64 (.lit 0)),(.int .i64 (.lit 0)),(.int .i64 (.lit 0)),(.int .i64 (.lit 0)),(.int .i64 (.lit 0)),.nilmap]⟩,
 ⟨some 3,true,none,iMov (.c (.int .i64 (.lit 0)))⟩])
 (cSeq (cSeq (cOps [⟨some 5,false,none,iLoadN 6 (.t 1)⟩,
 ⟨some 6,false,none,iCall (.c (.func (.func 22) [] [])) [(.t 5)]⟩,
 ⟨some 4,true,none,iMov (.t 6)⟩])
 (cSeq (cOps [⟨some 7,false,none,iMov (.t 4)⟩,
 ⟨some 8,true,none,iCmp .neq (.t 7) (.c (.int .i64 (.lit 0)))⟩])
 (cCond (.t 8) (cSeq (cOps [⟨some 9,false,none,iBuild [.nilslice,(.int .i64 (.lit 0)),(.int .i64 (.lit 0)),(.int .i64 (.lit 0)),(.int .i64 (.lit 0)),(.int .i64 (.lit 0)),.nilmap] []⟩,
 ⟨some 10,false,none,iMov (.t 4)⟩,
 ⟨none,false,none,iStore 7 (.t 2) (.t 9)⟩,
 ⟨some 3,true,none,iMov (.t 10)⟩])
 cRet) cSkip)))
 (cSeq (cOps [⟨some 11,false,none,iLoadN 6 (.t 1)⟩,
 ⟨some 12,false,none,iMkmap⟩,
 ⟨some 13,false,none,iBuild [.nilslice,(.int .i64 (.lit 0)),(.int .i64 (.lit 0)),(.int .i64 (.lit 0)),(.int .i64 (.lit 0)),(.int .i64 (.lit 0)),.nilmap] [(0,6,(.t 11)),(6,1,(.t 12))]⟩,
 ⟨none,false,none,iStore 7 (.t 2) (.t 13)⟩,
 ⟨some 3,true,none,iMov (.c (.int .i64 (.lit 0)))⟩])
 cRet))),[.cell 2 true 7,.t 3]⟩
noncomputable def Tryd.kp58 : List Nat := [0,1,2]
noncomputable def Tryd.cf58 : CF := ⟨1,(cSeq (cOps [⟨some 1,true,none,iBox 98 (.t 0)⟩,
 ⟨some 2,true,none,iMov (.c .nilFunc)⟩])
 (cSeq (dOps 0 [⟨⟨some 3,false,none,iLoadN 7 (.t 1)⟩,[1],false,0,0,none,[]⟩,
 ⟨⟨some 4,false,none,iCall (.c (.func (.func 73) [] [])) [(.t 3),(.c .nilslice)]⟩,[3],true,0,0,none,[]⟩,
 ⟨⟨some 5,false,none,iLoadN 7 (.t 1)⟩,[1],false,0,1,none,[]⟩,
 ⟨⟨some 6,false,none,iFunc (.func 74) [(.t 5)] []⟩,[5],false,0,1,none,[]⟩,
 ⟨⟨some 7,false,none,iCall (.c (.func (.func 72) [] [])) [(.t 4),(.t 6)]⟩,[4,6],true,1,0,none,[]⟩,
 ⟨⟨some 2,true,none,iMov (.t 7)⟩,[7],false,2,2,none,[]⟩])
 cRet)),[.t 2]⟩
noncomputable def Tryd.kp59 : List Nat := [0,1,3,4]
noncomputable def Tryd.cf59 : CF := ⟨2,(cSeq (cOps [⟨some 3,true,none,iBox 24 (.t 1)⟩,
 ⟨some 4,true,none,iMov (.c (.bool (.lit false)))⟩])
 (cSeq (cOps [⟨some 5,false,none,iFaddr 0 (.t 3)⟩,
 ⟨some 6,false,none,iLoad (.t 5)⟩,
 ⟨some 7,false,none,iMov (.t 0)⟩,
 ⟨some 8,false,none,iCmp .leq (.t 6) (.t 7)⟩,
 ⟨some 9,false,none,iMov (.t 8)⟩,
 ⟨some 10,false,some (9,true),iMov (.t 0)⟩,
 ⟨some 11,false,some (9,true),iFaddr 1 (.t 3)⟩,
 ⟨some 12,false,some (9,true),iLoad (.t 11)⟩,
 ⟨some 13,false,some (9,true),iCmp .leq (.t 10) (.t 12)⟩,
 ⟨some 14,false,none,iPick (.t 9) (.t 13) (.c (.bool (.lit false)))⟩,
 ⟨some 4,true,none,iMov (.t 14)⟩])
 cRet)),[.t 4]⟩
noncomputable def Tryd.kp60 : List Nat := [0,1,2,3,4]
noncomputable def Tryd.cf60 : CF := ⟨2,(cSeq (cOps [⟨some 2,true,none,iBox 24 (.t 0)⟩,
 ⟨some 3,true,none,iBox 24 (.t 1)⟩,
 ⟨some 4,true,none,iMov (.c (.bool (.lit false)))⟩])
 (cSeq (cOps [⟨some 5,false,none,iFaddr 0 (.t 3)⟩,
 ⟨some 6,false,none,iLoad (.t 5)⟩,
 ⟨some 7,false,none,iFaddr 0 (.t 2)⟩,
 ⟨some 8,false,none,iLoad (.t 7)⟩,
 ⟨some 9,false,none,iCmp .leq (.t 6) (.t 8)⟩,
 ⟨some 10,false,none,iMov (.t 9)⟩,
 ⟨some 11,false,some (10,true),iFaddr 0 (.t 2)⟩,
 ⟨some 12,false,some (10,true),iLoad (.t 11)⟩,
 ⟨some 13,false,some (10,true),iFaddr 1 (.t 2)⟩,
 ⟨some 14,false,some (10,true),iLoad (.t 13)⟩,
 ⟨some 15,false,some (10,true),iCmp .leq (.t 12) (.t 14)⟩,
 ⟨some 16,false,none,iPick (.t 10) (.t 15) (.c (.bool (.lit false)))⟩,
 ⟨some 17,false,none,iMov (.t 16)⟩,
 ⟨some 18,false,some (17,true),iFaddr 1 (.t 2)⟩,
 ⟨some 19,false,some (17,true),iLoad (.t 18)⟩,
 ⟨some 20,false,some (17,true),iFaddr 1 (.t 3)⟩,
 ⟨some 21,false,some (17,true),iLoad (.t 20)⟩,
 ⟨some 22,false,some (17,true),iCmp .leq (.t 19) (.t 21)⟩,
 ⟨some 23,false,none,iPick (.t 17) (.t 22) (.c (.bool (.lit false)))⟩,
 ⟨some 4,true,none,iMov (.t 23)⟩])
 cRet)),[.t 4]⟩
noncomputable def Tryd.kp61 : List Nat := [0,1,2,3,4]
noncomputable def Tryd.cf61 : CF := ⟨2,(cSeq (cOps [⟨some 2,true,none,iBox 84 (.t 0)⟩])
 (cSeq (cOps [⟨some 3,true,none,iAlloc 104 [(.int .i64 (.lit 0)),(.int .i64 (.lit 0)),(.int .i64 (.lit 0)),(.int .i64 (.lit 0)),(.int .i64 (.lit 0)),(.int .i64 (.lit 0))]⟩])
 (cSeq (cOps [⟨some 4,true,none,iAlloc 105 [.nilFunc]⟩])
 (cSeq (cOps [⟨some 5,false,none,iFunc (.func 62) [] [(.t 2),(.t 3),(.t 1),(.t 4)]⟩,
 ⟨none,false,none,iStore 1 (.t 4) (.t 5)⟩])
 (cOps [⟨some 6,false,none,iLoad (.t 4)⟩,
 ⟨some 7,false,none,iFaddr 12 (.t 1)⟩,
 ⟨some 8,false,none,iLoad (.t 7)⟩,
 ⟨some 9,false,none,iLenS (.t 8)⟩,
 ⟨some 10,false,none,iCall (.t 6) [(.c (.int .i64 (.lit 0))),(.t 9)]⟩]))))),[]⟩
noncomputable def Tryd.kp62 : List Nat := [0,1,2,3,4,5,8,9,11,21,26,37]
noncomputable def Tryd.cf62 : CF := ⟨6,(cSeq (cOps [⟨some 8,true,none,iMov (.c (.bool (.lit false)))⟩])
 (cSeq (cSeq (cOps [⟨some 10,false,none,iMov (.t 1)⟩,
 ⟨some 11,true,none,iCmp .eql (.t 10) (.c (.int .i64 (.lit 0)))⟩])
 (cCond (.t 11) (cSeq (dOps 0 [⟨⟨some 12,false,none,iLoad (.t 2)⟩,[2],false,0,0,none,[]⟩,
 ⟨⟨some 13,false,none,iMov (.t 0)⟩,[0],false,0,0,none,[]⟩,
 ⟨⟨some 14,false,none,iMov (.t 0)⟩,[0],false,0,0,none,[]⟩,
 ⟨⟨some 15,false,none,iSliceA 1 6 (.t 3) none (some (.t 13)) (some (.t 14))⟩,[3,13,14],false,0,0,none,[]⟩,
 ⟨⟨some 16,false,none,iCall (.t 12) [(.t 15)]⟩,[12,15],true,0,0,none,[]⟩,
 ⟨⟨some 8,true,none,iMov (.t 16)⟩,[16],false,1,1,none,[]⟩])
 cRet) cSkip))
 (cSeq cSkip
 (cSeq (cSeq (cOps [⟨some 9,true,none,iMov (.c (.int .i64 (.lit 1)))⟩])
 (cBlock 0 (cLoop (cSeq (cSeq (cOps [⟨some 17,false,none,iMov (.t 9)⟩,
 ⟨some 18,false,none,iFaddr 0 (.t 4)⟩,
 ⟨some 19,false,none,iFaddr 11 (.t 18)⟩,
 ⟨some 20,false,none,iLoad (.t 19)⟩,
 ⟨some 21,true,none,iCmp .leq (.t 17) (.t 20)⟩])
 (cCond (.t 21) cSkip (cExit 0)))
 (cSeq (cBlock 1 (cSeq (cSeq (cOps [⟨some 24,false,none,iMov (.t 9)⟩,
 ⟨some 25,false,none,iMov (.t 1)⟩,
 ⟨some 26,true,none,iCmp .gtr (.t 24) (.t 25)⟩])
 (cCond (.t 26) (cExit 0) cSkip))
 (cSeq (cOps [⟨some 27,false,none,iMov (.t 0)⟩,
 ⟨some 28,false,none,iMov (.t 9)⟩,
 ⟨some 29,false,none,iIaddrA 1 6 (.t 3) (.t 27)⟩,
 ⟨none,false,none,iStore 1 (.t 29) (.t 28)⟩])
 (cSeq (cOps [⟨some 30,false,none,iLoad (.t 5)⟩,
 ⟨some 31,false,none,iMov (.t 0)⟩,
 ⟨some 32,false,none,iArith .add (.t 31) (.c (.int .i64 (.lit 1)))⟩,
 ⟨some 33,false,none,iMov (.t 1)⟩,
 ⟨some 34,false,none,iMov (.t 9)⟩,
 ⟨some 35,false,none,iArith .sub (.t 33) (.t 34)⟩,
 ⟨some 36,false,none,iCall (.t 30) [(.t 32),(.t 35)]⟩,
 ⟨some 37,true,none,iNot (.t 36)⟩])
 (cCond (.t 37) (cSeq (cOps [⟨some 8,true,none,iMov (.c (.bool (.lit false)))⟩])
 cRet) cSkip)))))
 (cOps [⟨some 22,false,none,iMov (.t 9)⟩,
 ⟨some 23,false,none,iArith .add (.t 22) (.c (.int .i64 (.lit 1)))⟩,
 ⟨some 9,true,none,iMov (.t 23)⟩]))))))
 (cSeq (cOps [⟨some 8,true,none,iMov (.c (.bool (.lit true)))⟩])
 cRet))))),[.t 8]⟩
noncomputable def Tryd.kp63 : List Nat := [0,1,2,3,4,11,12,13,21]
noncomputable def Tryd.cf63 : CF := ⟨1,(cSeq (cOps [⟨some 1,true,none,iBox 107 (.t 0)⟩,
 ⟨some 2,true,none,iMov (.c (.bool (.lit false)))⟩])
 (cSeq (cSeq (cOps [⟨some 5,false,none,iFaddr 0 (.t 1)⟩,
 ⟨some 6,false,none,iLoadN 2 (.t 5)⟩,
 ⟨some 7,false,none,iFaddr 2 (.t 1)⟩,
 ⟨some 8,false,none,iLoadN 2 (.t 7)⟩,
 ⟨some 9,false,none,iFaddr 4 (.t 1)⟩,
 ⟨some 10,false,none,iLoadN 2 (.t 9)⟩,
 ⟨some 11,true,none,iBuild [(.int .i64 (.lit 0)),(.int .i64 (.lit 0)),(.int .i64 (.lit 0)),(.int .i64 (.lit 0)),(.int .i64 (.lit 0)),(.int .i64 (.lit 0))] [(0,2,(.t 6)),(2,2,(.t 8)),(4,2,(.t 10))]⟩,
 ⟨some 12,true,none,iMov (.c (.int .i64 (.lit 0)))⟩])
 (cBlock 0 (cLoop (cSeq (cOps [⟨some 13,true,none,iCmp .lss (.t 12) (.c (.int .i64 (.lit 3)))⟩])
 (cSeq (cCond (.t 13) cSkip (cExit 0))
 (cSeq (cBlock 1 (cSeq (cOps [⟨some 14,false,none,iMov (.t 12)⟩,
 ⟨some 15,false,none,iIndex true 2 3 (.t 11) (.t 12)⟩,
 ⟨some 4,true,none,iAlloc 24 [(.int .i64 (.lit 0)),(.int .i64 (.lit 0))]⟩,
 ⟨some 3,true,none,iMov (.t 14)⟩,
 ⟨none,false,none,iStore 2 (.t 4) (.t 15)⟩])
 (cSeq (dOps 0 [⟨⟨some 16,false,none,iLoadN 2 (.t 4)⟩,[4],false,0,0,none,[]⟩,
 ⟨⟨some 17,false,none,iMov (.t 3)⟩,[3],false,0,0,none,[]⟩,
 ⟨⟨some 18,false,none,iIaddrA 2 3 (.c (.ptr 3 0)) (.t 17)⟩,[17],false,0,0,none,[]⟩,
 ⟨⟨some 19,false,none,iLoadN 2 (.t 18)⟩,[18],false,0,0,none,[]⟩,
 ⟨⟨some 20,false,none,iCall (.c (.func (.func 64) [] [])) [(.t 16),(.t 19)]⟩,[16,19],true,0,0,none,[]⟩,
 ⟨⟨some 21,true,none,iNot (.t 20)⟩,[20],false,1,1,none,[]⟩])
 (cCond (.t 21) (cSeq (cOps [⟨some 2,true,none,iMov (.c (.bool (.lit false)))⟩])
 cRet) cSkip))))
 (cOps [⟨some 22,false,none,iArith .add (.t 12) (.c (.int .i64 (.lit 1)))⟩,
 ⟨some 12,true,none,iMov (.t 22)⟩])))))))
 (cSeq (cOps [⟨some 23,false,none,iFaddr 0 (.t 1)⟩,
 ⟨some 24,false,none,iFaddr 0 (.t 23)⟩,
 ⟨some 25,false,none,iLoad (.t 24)⟩,
 ⟨some 26,false,none,iFaddr 2 (.t 1)⟩,
 ⟨some 27,false,none,iFaddr 1 (.t 26)⟩,
 ⟨some 28,false,none,iLoad (.t 27)⟩,
 ⟨some 29,false,none,iCmp .leq (.t 25) (.t 28)⟩,
 ⟨some 2,true,none,iMov (.t 29)⟩])
 cRet))),[.t 2]⟩
noncomputable def Tryd.kp64 : List Nat := [0,1,2,3,4]
noncomputable def Tryd.cf64 : CF := ⟨2,(cSeq (cOps [⟨some 2,true,none,iBox 24 (.t 0)⟩,
 ⟨some 3,true,none,iBox 24 (.t 1)⟩,
 ⟨some 4,true,none,iMov (.c (.bool (.lit false)))⟩])
 (cSeq (cOps [⟨some 5,false,none,iFaddr 0 (.t 3)⟩,
 ⟨some 6,false,none,iLoad (.t 5)⟩,
 ⟨some 7,false,none,iFaddr 0 (.t 2)⟩,
 ⟨some 8,false,none,iLoad (.t 7)⟩,
 ⟨some 9,false,none,iCmp .leq (.t 6) (.t 8)⟩,
 ⟨some 10,false,none,iMov (.t 9)⟩,
 ⟨some 11,false,some (10,true),iFaddr 0 (.t 2)⟩,
 ⟨some 12,false,some (10,true),iLoad (.t 11)⟩,
 ⟨some 13,false,some (10,true),iFaddr 1 (.t 2)⟩,
 ⟨some 14,false,some (10,true),iLoad (.t 13)⟩,
 ⟨some 15,false,some (10,true),iCmp .leq (.t 12) (.t 14)⟩,
 ⟨some 16,false,none,iPick (.t 10) (.t 15) (.c (.bool (.lit false)))⟩,
 ⟨some 17,false,none,iMov (.t 16)⟩,
 ⟨some 18,false,some (17,true),iFaddr 1 (.t 2)⟩,
 ⟨some 19,false,some (17,true),iLoad (.t 18)⟩,
 ⟨some 20,false,some (17,true),iFaddr 1 (.t 3)⟩,
 ⟨some 21,false,some (17,true),iLoad (.t 20)⟩,
 ⟨some 22,false,some (17,true),iCmp .leq (.t 19) (.t 21)⟩,
 ⟨some 23,false,none,iPick (.t 17) (.t 22) (.c (.bool (.lit false)))⟩,
 ⟨some 4,true,none,iMov (.t 23)⟩])
 cRet)),[.t 4]⟩
noncomputable def Tryd.kp65 : List Nat := [0,1,2]
noncomputable def Tryd.cf65 : CF := ⟨1,(cSeq (cOps [⟨some 1,true,none,iBox 110 (.t 0)⟩,
 ⟨some 2,true,none,iMov (.c (.int .i64 (.lit 0)))⟩])
 (cSeq (cOps [⟨some 3,false,none,iFaddr 0 (.t 1)⟩,
 ⟨some 4,false,none,iLoad (.t 3)⟩,
 ⟨some 2,true,none,iMov (.t 4)⟩])
 cRet)),[.t 2]⟩
noncomputable def Tryd.kp66 : List Nat := [0,1,2]
noncomputable def Tryd.cf66 : CF := ⟨1,(cSeq (cOps [⟨some 1,true,none,iBox 110 (.t 0)⟩,
 ⟨some 2,true,none,iMov (.c (.int .i64 (.lit 0)))⟩])
 (cSeq (cOps [⟨some 3,false,none,iFaddr 1 (.t 1)⟩,
 ⟨some 4,false,none,iLoad (.t 3)⟩,
 ⟨some 2,true,none,iMov (.t 4)⟩])
 cRet)),[.t 2]⟩
noncomputable def Tryd.kp67 : List Nat := [0,1,4,6,7,8,9,10]
noncomputable def Tryd.cf67 : CF := ⟨2,(cSeq (cOps [⟨some 4,true,none,iMov (.c (.int .i64 (.lit 0)))⟩])
 (cSeq (cSeq (cOps [⟨some 7,true,none,iMov (.t 1)⟩,
 ⟨some 8,true,none,iLenS (.t 7)⟩,
 ⟨some 9,true,none,iMov (.c (.int .i64 (.lit 0)))⟩])
 (cBlock 0 (cLoop (cSeq (cOps [⟨some 10,true,none,iCmp .lss (.t 9) (.t 8)⟩])
 (cSeq (cCond (.t 10) cSkip (cExit 0))
 (cSeq (cBlock 1 (cSeq (cOps [⟨some 11,false,none,iIaddr 1 (.t 7) (.t 9)⟩,
 ⟨some 12,false,none,iLoad (.t 11)⟩,
 ⟨some 6,true,none,iMov (.t 12)⟩])
 (cOps [⟨some 13,false,none,iMov (.t 0)⟩,
 ⟨some 14,false,none,iMov (.t 6)⟩,
 ⟨some 15,false,none,iMax [(.t 13),(.t 14)]⟩,
 ⟨some 0,true,none,iMov (.t 15)⟩])))
 (cOps [⟨some 16,false,none,iArith .add (.t 9) (.c (.int .i64 (.lit 1)))⟩,
 ⟨some 9,true,none,iMov (.t 16)⟩])))))))
 (cSeq (cOps [⟨some 17,false,none,iMov (.t 0)⟩,
 ⟨some 4,true,none,iMov (.t 17)⟩])
 cRet))),[.t 4]⟩
noncomputable def Tryd.kp68 : List Nat := [0,1,2,3,4,6,7,8,12,13,14,21]
noncomputable def Tryd.cf68 : CF := ⟨3,(cSeq (cOps [⟨some 3,true,none,iBox 90 (.t 0)⟩,
 ⟨some 4,true,none,iBox 114 (.t 1)⟩,
 ⟨some 6,true,none,iMov (.c (.int .i64 (.lit 0)))⟩])
 (cSeq (cSeq (cOps [⟨some 9,false,none,iFaddr 0 (.t 3)⟩,
 ⟨some 10,false,none,iFaddr 12 (.t 9)⟩,
 ⟨some 11,false,none,iLoad (.t 10)⟩,
 ⟨some 12,true,none,iLenS (.t 11)⟩,
 ⟨some 13,true,none,iMov (.c (.int .i64 (.lit 0)))⟩])
 (cBlock 0 (cLoop (cSeq (cOps [⟨some 14,true,none,iCmp .lss (.t 13) (.t 12)⟩])
 (cSeq (cCond (.t 14) cSkip (cExit 0))
 (cSeq (cBlock 1 (cSeq (cOps [⟨some 15,false,none,iMov (.t 13)⟩,
 ⟨some 7,true,none,iMov (.t 15)⟩])
 (cSeq (cOps [⟨some 16,false,none,iLoadN 16 (.t 3)⟩,
 ⟨some 17,false,none,iMov (.t 7)⟩,
 ⟨some 18,false,none,iCall (.c (.func (.func 69) [] [])) [(.t 16),(.t 17)]⟩,
 ⟨some 8,true,none,iAlloc 114 [(.int .i64 (.lit 0)),(.int .i64 (.lit 0))]⟩,
 ⟨none,false,none,iStore 2 (.t 8) (.t 18)⟩])
 (cSeq (cSeq (cOps [⟨some 19,false,none,iLoadN 2 (.t 8)⟩,
 ⟨some 20,false,none,iLoadN 2 (.t 4)⟩,
 ⟨some 21,true,none,iEq false true 2 [(0,.int),(1,.int)] (.t 19) (.t 20)⟩])
 (cCond (.t 21) (cExit 0) cSkip))
 (cOps [⟨some 22,false,none,iMov (.t 6)⟩,
 ⟨some 23,false,none,iLoadN 16 (.t 3)⟩,
 ⟨some 24,false,none,iLoadN 2 (.t 8)⟩,
 ⟨some 25,false,none,iMov (.t 2)⟩,
 ⟨some 26,false,none,iCall (.c (.func (.func 71) [] [])) [(.t 23),(.t 24),(.t 25)]⟩,
 ⟨some 27,false,none,iArith .add (.t 22) (.t 26)⟩,
 ⟨some 6,true,none,iMov (.t 27)⟩])))))
 (cOps [⟨some 28,false,none,iArith .add (.t 13) (.c (.int .i64 (.lit 1)))⟩,
 ⟨some 13,true,none,iMov (.t 28)⟩])))))))
 (cSeq (cOps [⟨some 29,false,none,iMov (.t 6)⟩,
 ⟨some 6,true,none,iMov (.t 29)⟩])
 cRet))),[.t 6]⟩
noncomputable def Tryd.kp69 : List Nat := [0,1,2,4]
noncomputable def Tryd.cf69 : CF := ⟨2,(cSeq (cOps [⟨some 2,true,none,iBox 90 (.t 0)⟩,
 ⟨some 4,true,none,iAlloc 114 [(.int .i64 (.lit 0)),(.int .i64 (.lit 0))]⟩])
 (cSeq (cOps [⟨some 5,false,none,iMov (.t 1)⟩,
 ⟨some 6,false,none,iFaddr 0 (.t 2)⟩,
 ⟨some 7,false,none,iFaddr 0 (.t 6)⟩,
 ⟨some 8,false,none,iFaddr 6 (.t 7)⟩,
 ⟨some 9,false,none,iLoad (.t 8)⟩,
 ⟨some 10,false,none,iBuild [(.int .i64 (.lit 0)),(.int .i64 (.lit 0))] [(0,1,(.t 5)),(1,1,(.t 9))]⟩,
 ⟨none,false,none,iStore 2 (.t 4) (.t 10)⟩])
 cRet)),[.cell 4 true 2]⟩
noncomputable def Tryd.kp70 : List Nat := [0,1,2,3,4]
noncomputable def Tryd.cf70 : CF := ⟨2,(cSeq (cOps [⟨some 2,true,none,iBox 90 (.t 0)⟩,
 ⟨some 3,true,none,iBox 24 (.t 1)⟩,
 ⟨some 4,true,none,iMov (.c (.int .i64 (.lit 0)))⟩])
 (cSeq (cOps [⟨some 5,false,none,iFaddr 14 (.t 2)⟩,
 ⟨some 6,false,none,iIaddrA 1 2 (.t 5) (.c (.int .i64 (.lit 0)))⟩,
 ⟨some 7,false,none,iLoad (.t 6)⟩,
 ⟨some 8,false,none,iLoadN 2 (.t 3)⟩,
 ⟨some 9,false,none,iCall (.t 7) [(.t 8)]⟩,
 ⟨some 10,false,none,iArith .mul (.c (.int .i64 (.lit 10))) (.t 9)⟩,
 ⟨some 4,true,none,iMov (.t 10)⟩])
 cRet)),[.t 4]⟩
noncomputable def Tryd.kp71 : List Nat := [0,1,2,3,4,6]
noncomputable def Tryd.cf71 : CF := ⟨3,(cSeq (cOps [⟨some 3,true,none,iBox 90 (.t 0)⟩,
 ⟨some 4,true,none,iBox 114 (.t 1)⟩,
 ⟨some 6,true,none,iMov (.c (.int .i64 (.lit 0)))⟩])
 (cSeq (dOps 0 [⟨⟨some 7,false,none,iMov (.t 2)⟩,[2],false,0,1,none,[]⟩,
 ⟨⟨some 8,false,none,iFaddr 14 (.t 3)⟩,[3],false,0,1,none,[]⟩,
 ⟨⟨some 9,false,none,iIaddrA 1 2 (.t 8) (.t 7)⟩,[8,7],false,0,1,none,[]⟩,
 ⟨⟨some 10,false,none,iLoad (.t 9)⟩,[9],false,0,1,none,[]⟩,
 ⟨⟨some 11,false,none,iFaddr 0 (.t 3)⟩,[3],false,0,0,none,[]⟩,
 ⟨⟨some 12,false,none,iLoadN 14 (.t 11)⟩,[11],false,0,0,none,[]⟩,
 ⟨⟨some 13,false,none,iLoadN 2 (.t 4)⟩,[4],false,0,0,none,[]⟩,
 ⟨⟨some 14,false,none,iCall (.c (.func (.func 75) [] [])) [(.t 12),(.t 13)]⟩,[12,13],true,0,0,none,[]⟩,
 ⟨⟨some 15,false,none,iMov (.t 2)⟩,[2],false,0,1,none,[]⟩,
 ⟨⟨some 16,false,none,iIndex true 2 2 (.t 14) (.t 15)⟩,[14,15],false,1,1,none,[]⟩,
 ⟨⟨some 17,false,none,iCall (.t 10) [(.t 16)]⟩,[10,16],true,1,0,none,[]⟩,
 ⟨⟨some 6,true,none,iMov (.t 17)⟩,[17],false,2,2,none,[]⟩])
 cRet)),[.t 6]⟩
noncomputable def Tryd.kp72 : List Nat := [0,1,2,3,4]
noncomputable def Tryd.cf72 : CF := ⟨2,(cSeq (cOps [⟨some 2,true,none,iBox 120 (.t 0)⟩,
 ⟨some 3,true,none,iBox 122 (.t 1)⟩,
 ⟨some 4,true,none,iMov (.c .nilFunc)⟩])
 (cSeq (cOps [⟨some 5,false,none,iFunc (.func 76) [] [(.t 3),(.t 2)]⟩,
 ⟨some 4,true,none,iMov (.t 5)⟩])
 cRet)),[.t 4]⟩
noncomputable def Tryd.kp73 : List Nat := [0,1,2,4,5,6,10,11,12]
noncomputable def Tryd.cf73 : CF := ⟨2,(cSeq (cOps [⟨some 2,true,none,iBox 98 (.t 0)⟩,
 ⟨some 4,true,none,iAlloc 120 [(.bool (.lit false)),(.bool (.lit false)),(.bool (.lit false)),(.bool (.lit false)),(.bool (.lit false)),(.bool (.lit false))]⟩])
 (cSeq (cOps [⟨some 5,true,none,iAlloc 120 [(.bool (.lit false)),(.bool (.lit false)),(.bool (.lit false)),(.bool (.lit false)),(.bool (.lit false)),(.bool (.lit false))]⟩])
 (cSeq (cSeq (cOps [⟨some 7,false,none,iFaddr 0 (.t 2)⟩,
 ⟨some 8,false,none,iFaddr 0 (.t 7)⟩,
 ⟨some 9,false,none,iLoad (.t 8)⟩,
 ⟨some 10,true,none,iLenS (.t 9)⟩,
 ⟨some 11,true,none,iMov (.c (.int .i64 (.lit 0)))⟩])
 (cBlock 0 (cLoop (cSeq (cOps [⟨some 12,true,none,iCmp .lss (.t 11) (.t 10)⟩])
 (cSeq (cCond (.t 12) cSkip (cExit 0))
 (cSeq (cBlock 1 (cSeq (cOps [⟨some 13,false,none,iMov (.t 11)⟩,
 ⟨some 6,true,none,iMov (.t 13)⟩])
 (cOps [⟨some 14,false,none,iMov (.t 6)⟩,
 ⟨some 15,false,none,iMov (.t 1)⟩,
 ⟨some 16,false,none,iMov (.t 6)⟩,
 ⟨some 17,false,none,iCall (.c (.func (.func 79) [] [])) [(.t 15),(.t 16)]⟩,
 ⟨some 18,false,none,iNot (.t 17)⟩,
 ⟨some 19,false,none,iIaddrA 1 6 (.t 5) (.t 14)⟩,
 ⟨none,false,none,iStore 1 (.t 19) (.t 18)⟩])))
 (cOps [⟨some 20,false,none,iArith .add (.t 11) (.c (.int .i64 (.lit 1)))⟩,
 ⟨some 11,true,none,iMov (.t 20)⟩])))))))
 (cSeq (cOps [⟨some 21,false,none,iLoadN 6 (.t 5)⟩,
 ⟨none,false,none,iStore 6 (.t 4) (.t 21)⟩])
 cRet)))),[.cell 4 true 6]⟩
noncomputable def Tryd.kp74 : List Nat := [0,1,2,3,4,5,6,7,8,9,10,18,54]
noncomputable def Tryd.cf74 : CF := ⟨2,(cSeq (cOps [⟨some 2,true,none,iBox 98 (.t 0)⟩,
 ⟨some 3,true,none,iBox 130 (.t 1)⟩,
 ⟨some 4,true,none,iAlloc 128 [(.int .i64 (.lit 0)),(.int .i64 (.lit 0))]⟩])
 (cSeq (cSeq (cOps [⟨some 12,false,none,iFaddr 6 (.t 2)⟩,
 ⟨some 13,false,none,iLoad (.t 12)⟩,
 ⟨some 14,false,none,iLoadN 3 (.t 3)⟩,
 ⟨some 15,false,none,iLookup (.agg [(.int .i64 (.lit 0)),(.int .i64 (.lit 0))]) true 3 [(0,.int),(1,.int),(2,.int)] true (.t 13) (.t 14)⟩,
 ⟨some 11,false,none,iMov (.t 15)⟩,
 ⟨some 16,false,none,iExtract 0 (.t 11)⟩,
 ⟨some 17,false,none,iExtract 1 (.t 11)⟩,
 ⟨some 5,true,none,iAlloc 128 [(.int .i64 (.lit 0)),(.int .i64 (.lit 0))]⟩,
 ⟨none,false,none,iStore 2 (.t 5) (.t 16)⟩,
 ⟨some 6,true,none,iMov (.t 17)⟩])
 (cSeq (cOps [⟨some 18,true,none,iMov (.t 6)⟩])
 (cCond (.t 18) (cSeq (cOps [⟨some 19,false,none,iLoadN 2 (.t 5)⟩,
 ⟨none,false,none,iStore 2 (.t 4) (.t 19)⟩])
 cRet) cSkip)))
 (cSeq (cOps [⟨some 20,false,none,iFaddr 0 (.t 2)⟩,
 ⟨some 21,false,none,iFaddr 0 (.t 20)⟩,
 ⟨some 22,false,none,iLoad (.t 21)⟩,
 ⟨some 23,false,none,iFaddr 0 (.t 3)⟩,
 ⟨some 24,false,none,iLoad (.t 23)⟩,
 ⟨some 25,false,none,iIaddr 6 (.t 22) (.t 24)⟩,
 ⟨some 26,false,none,iLoadN 6 (.t 25)⟩,
 ⟨some 7,true,none,iAlloc 107 [(.int .i64 (.lit 0)),(.int .i64 (.lit 0)),(.int .i64 (.lit 0)),(.int .i64 (.lit 0)),(.int .i64 (.lit 0)),(.int .i64 (.lit 0))]⟩,
 ⟨none,false,none,iStore 6 (.t 7) (.t 26)⟩])
 (cSeq (cOps [⟨some 27,false,none,iFaddr 1 (.t 3)⟩,
 ⟨some 28,false,none,iFaddr 0 (.t 27)⟩,
 ⟨some 29,false,none,iLoad (.t 28)⟩,
 ⟨some 30,false,none,iFaddr 0 (.t 7)⟩,
 ⟨some 31,false,none,iFaddr 0 (.t 30)⟩,
 ⟨some 32,false,none,iLoad (.t 31)⟩,
 ⟨some 33,false,none,iMax [(.t 29),(.t 32)]⟩,
 ⟨some 8,true,none,iMov (.t 33)⟩])
 (cSeq (cOps [⟨some 34,false,none,iMov (.t 8)⟩,
 ⟨some 35,false,none,iFaddr 2 (.t 7)⟩,
 ⟨some 36,false,none,iFaddr 0 (.t 35)⟩,
 ⟨some 37,false,none,iLoad (.t 36)⟩,
 ⟨some 38,false,none,iMax [(.t 34),(.t 37)]⟩,
 ⟨some 9,true,none,iMov (.t 38)⟩])
 (cSeq (cOps [⟨some 10,true,none,iAlloc 128 [(.int .i64 (.lit 0)),(.int .i64 (.lit 0))]⟩])
 (cSeq (cSeq (cOps [⟨some 39,false,none,iMov (.t 8)⟩,
 ⟨some 40,false,none,iFaddr 1 (.t 3)⟩,
 ⟨some 41,false,none,iFaddr 1 (.t 40)⟩,
 ⟨some 42,false,none,iLoad (.t 41)⟩,
 ⟨some 43,false,none,iFaddr 0 (.t 7)⟩,
 ⟨some 44,false,none,iFaddr 1 (.t 43)⟩,
 ⟨some 45,false,none,iLoad (.t 44)⟩,
 ⟨some 46,false,none,iMin [(.t 42),(.t 45)]⟩,
 ⟨some 47,false,none,iCmp .leq (.t 39) (.t 46)⟩,
 ⟨some 48,false,none,iMov (.t 47)⟩,
 ⟨some 49,false,some (48,true),iMov (.t 9)⟩,
 ⟨some 50,false,some (48,true),iFaddr 2 (.t 7)⟩,
 ⟨some 51,false,some (48,true),iFaddr 1 (.t 50)⟩,
 ⟨some 52,false,some (48,true),iLoad (.t 51)⟩,
 ⟨some 53,false,some (48,true),iCmp .leq (.t 49) (.t 52)⟩,
 ⟨some 54,true,none,iPick (.t 48) (.t 53) (.c (.bool (.lit false)))⟩])
 (cCond (.t 54) (cOps [⟨some 55,false,none,iMov (.t 9)⟩,
 ⟨some 56,false,none,iFaddr 2 (.t 7)⟩,
 ⟨some 57,false,none,iFaddr 1 (.t 56)⟩,
 ⟨some 58,false,none,iLoad (.t 57)⟩,
 ⟨some 59,false,none,iArith .add (.t 58) (.c (.int .i64 (.lit 1)))⟩,
 ⟨some 60,false,none,iBuild [(.int .i64 (.lit 0)),(.int .i64 (.lit 0))] [(0,1,(.t 55)),(1,1,(.t 59))]⟩,
 ⟨none,false,none,iStore 2 (.t 10) (.t 60)⟩]) cSkip))
 (cSeq (cOps [⟨some 61,false,none,iFaddr 6 (.t 2)⟩,
 ⟨some 62,false,none,iLoad (.t 61)⟩,
 ⟨some 63,false,none,iLoadN 3 (.t 3)⟩,
 ⟨some 64,false,none,iLoadN 2 (.t 10)⟩,
 ⟨none,false,none,iMapset true 3 [(0,.int),(1,.int),(2,.int)] (.t 62) (.t 63) (.t 64)⟩])
 (cSeq (cOps [⟨some 65,false,none,iLoadN 2 (.t 10)⟩,
 ⟨none,false,none,iStore 2 (.t 4) (.t 65)⟩])
 cRet))))))))),[.cell 4 true 2]⟩
noncomputable def Tryd.kp75 : List Nat := [0,1,2,3,4,5,6,13,15,16]
noncomputable def Tryd.cf75 : CF := ⟨2,(cSeq (cOps [⟨some 2,true,none,iBox 52 (.t 0)⟩,
 ⟨some 3,true,none,iBox 114 (.t 1)⟩,
 ⟨some 4,true,none,iAlloc 124 [(.int .i64 (.lit 0)),(.int .i64 (.lit 0)),(.int .i64 (.lit 0)),(.int .i64 (.lit 0))]⟩])
 (cSeq (cOps [⟨some 7,false,none,iFaddr 13 (.t 2)⟩,
 ⟨some 8,false,none,iLoad (.t 7)⟩,
 ⟨some 9,false,none,iLoadN 2 (.t 3)⟩,
 ⟨some 10,false,none,iLookup (.agg [(.int .i64 (.lit 0)),(.int .i64 (.lit 0)),(.int .i64 (.lit 0)),(.int .i64 (.lit 0))]) true 2 [(0,.int),(1,.int)] false (.t 8) (.t 9)⟩,
 ⟨some 5,true,none,iAlloc 124 [(.int .i64 (.lit 0)),(.int .i64 (.lit 0)),(.int .i64 (.lit 0)),(.int .i64 (.lit 0))]⟩,
 ⟨none,false,none,iStore 4 (.t 5) (.t 10)⟩])
 (cSeq (cSeq (cOps [⟨some 11,false,none,iLoadN 4 (.t 5)⟩,
 ⟨some 12,false,none,iBuild [(.int .i64 (.lit 0)),(.int .i64 (.lit 0)),(.int .i64 (.lit 0)),(.int .i64 (.lit 0))] []⟩,
 ⟨some 13,true,none,iEq true true 4 [(0,.int),(1,.int),(2,.int),(3,.int)] (.t 11) (.t 12)⟩])
 (cCond (.t 13) (cSeq (cOps [⟨some 14,false,none,iLoadN 4 (.t 5)⟩,
 ⟨none,false,none,iStore 4 (.t 4) (.t 14)⟩])
 cRet) cSkip))
 (cSeq (cSeq (cOps [⟨some 15,true,none,iMov (.c (.int .i64 (.lit 0)))⟩])
 (cBlock 0 (cLoop (cSeq (cOps [⟨some 16,true,none,iCmp .lss (.t 15) (.c (.int .i64 (.lit 2)))⟩])
 (cSeq (cCond (.t 16) cSkip (cExit 0))
 (cSeq (cBlock 1 (cSeq (cOps [⟨some 17,false,none,iMov (.t 15)⟩,
 ⟨some 6,true,none,iMov (.t 17)⟩])
 (dOps 0 [⟨⟨some 19,false,none,iMov (.t 6)⟩,[6],false,0,1,none,[]⟩,
 ⟨⟨some 20,false,none,iFaddr 0 (.t 2)⟩,[2],false,0,0,none,[]⟩,
 ⟨⟨some 21,false,none,iFaddr 0 (.t 20)⟩,[20],false,0,0,none,[]⟩,
 ⟨⟨some 22,false,none,iLoadN 6 (.t 21)⟩,[21],false,0,0,none,[]⟩,
 ⟨⟨some 23,false,none,iFaddr 12 (.t 2)⟩,[2],false,0,0,none,[]⟩,
 ⟨⟨some 24,false,none,iLoad (.t 23)⟩,[23],false,0,0,none,[]⟩,
 ⟨⟨some 25,false,none,iFaddr 0 (.t 3)⟩,[3],false,0,0,none,[]⟩,
 ⟨⟨some 26,false,none,iLoad (.t 25)⟩,[25],false,0,0,none,[]⟩,
 ⟨⟨some 27,false,none,iFaddr 0 (.t 3)⟩,[3],false,0,0,none,[]⟩,
 ⟨⟨some 28,false,none,iLoad (.t 27)⟩,[27],false,0,0,none,[]⟩,
 ⟨⟨some 29,false,none,iArith .add (.t 28) (.c (.int .i64 (.lit 1)))⟩,[28],false,0,0,none,[]⟩,
 ⟨⟨some 30,false,none,iFaddr 0 (.t 3)⟩,[3],false,0,0,none,[]⟩,
 ⟨⟨some 31,false,none,iLoad (.t 30)⟩,[30],false,0,0,none,[]⟩,
 ⟨⟨some 32,false,none,iArith .add (.t 31) (.c (.int .i64 (.lit 1)))⟩,[31],false,0,0,none,[]⟩,
 ⟨⟨some 33,false,none,iSlice 1 (.t 24) (some (.t 26)) (some (.t 29)) (some (.t 32))⟩,[24,26,29,32],false,0,0,none,[]⟩,
 ⟨⟨some 34,false,none,iFaddr 1 (.t 3)⟩,[3],false,0,0,none,[]⟩,
 ⟨⟨some 35,false,none,iLoad (.t 34)⟩,[34],false,0,0,none,[]⟩,
 ⟨⟨some 36,false,none,iMov (.t 6)⟩,[6],false,0,0,none,[]⟩,
 ⟨⟨some 37,false,none,iArith .add (.t 35) (.t 36)⟩,[35,36],false,0,0,none,[]⟩,
 ⟨⟨some 38,false,none,iCall (.c (.func (.func 80) [] [])) [(.t 22),(.t 33),(.t 37)]⟩,[22,33,37],true,0,0,none,[]⟩,
 ⟨⟨some 18,false,none,iMov (.t 38)⟩,[38],false,1,1,none,[]⟩,
 ⟨⟨some 39,false,none,iExtract 0 (.t 18)⟩,[18],false,1,1,none,[]⟩,
 ⟨⟨some 40,false,none,iExtract 1 (.t 18)⟩,[18],false,1,2,none,[]⟩,
 ⟨⟨some 41,false,none,iIaddrA 2 2 (.t 5) (.t 19)⟩,[5,19],false,1,1,none,[]⟩,
 ⟨⟨none,false,none,iStore 2 (.t 41) (.t 39)⟩,[41,39],true,1,0,none,[]⟩])))
 (cOps [⟨some 42,false,none,iArith .add (.t 15) (.c (.int .i64 (.lit 1)))⟩,
 ⟨some 15,true,none,iMov (.t 42)⟩])))))))
 (cSeq (cOps [⟨some 43,false,none,iFaddr 13 (.t 2)⟩,
 ⟨some 44,false,none,iLoad (.t 43)⟩,
 ⟨some 45,false,none,iLoadN 2 (.t 3)⟩,
 ⟨some 46,false,none,iLoadN 4 (.t 5)⟩,
 ⟨none,false,none,iMapset true 2 [(0,.int),(1,.int)] (.t 44) (.t 45) (.t 46)⟩])
 (cSeq (cOps [⟨some 47,false,none,iLoadN 4 (.t 5)⟩,
 ⟨none,false,none,iStore 4 (.t 4) (.t 47)⟩])
 cRet)))))),[.cell 4 true 4]⟩
noncomputable def Tryd.kp76 : List Nat := [0,1,2,3,4,5,10]
noncomputable def Tryd.cf76 : CF := ⟨3,(cSeq (cOps [⟨some 3,true,none,iBox 84 (.t 0)⟩])
 (cSeq (cOps [⟨some 6,false,none,iMkslice 3 [(.int .i64 (.lit 0))] 8 (.c (.int .i64 (.lit 6))) (.c (.int .i64 (.lit 6)))⟩,
 ⟨some 4,true,none,iAlloc 29 [.nilslice]⟩,
 ⟨none,false,none,iStore 1 (.t 4) (.t 6)⟩])
 (cSeq (cOps [⟨some 5,true,none,iAlloc 126 [.nilFunc]⟩])
 (cSeq (cOps [⟨some 7,false,none,iFunc (.func 77) [] [(.t 3),(.t 4),(.t 1),(.t 5)]⟩,
 ⟨none,false,none,iStore 1 (.t 5) (.t 7)⟩])
 (cSeq (cOps [⟨some 8,false,none,iLoadN 6 (.t 2)⟩,
 ⟨some 9,false,none,iBuild [(.bool (.lit false)),(.bool (.lit false)),(.bool (.lit false)),(.bool (.lit false)),(.bool (.lit false)),(.bool (.lit false))] []⟩,
 ⟨some 10,true,none,iEq true true 6 [(0,.bool),(1,.bool),(2,.bool),(3,.bool),(4,.bool),(5,.bool)] (.t 8) (.t 9)⟩])
 (cCond (.t 10) (dOps 0 [⟨⟨some 11,false,none,iLoad (.t 5)⟩,[5],false,0,1,none,[]⟩,
 ⟨⟨some 12,false,none,iLoadN 6 (.t 2)⟩,[2],false,0,1,none,[]⟩,
 ⟨⟨some 13,false,none,iCall (.c (.func (.func 78) [] [])) []⟩,[],true,0,0,none,[]⟩,
 ⟨⟨some 14,false,none,iCall (.t 11) [(.c (.int .i64 (.lit 0))),(.t 12),(.t 13)]⟩,[11,12,13],true,1,0,none,[]⟩]) cSkip)))))),[]⟩
noncomputable def Tryd.kp77 : List Nat := [0,1,2,3,4,5,6,8,9,10,11,12,13,16,23,24,29,37,51]
noncomputable def Tryd.cf77 : CF := ⟨7,(cSeq (cOps [⟨some 8,true,none,iBox 120 (.t 1)⟩,
 ⟨some 9,true,none,iBox 128 (.t 2)⟩,
 ⟨some 10,true,none,iMov (.c (.bool (.lit false)))⟩])
 (cSeq (cSeq (cOps [⟨some 14,false,none,iLoadN 6 (.t 8)⟩,
 ⟨some 15,false,none,iBuild [(.bool (.lit false)),(.bool (.lit false)),(.bool (.lit false)),(.bool (.lit false)),(.bool (.lit false)),(.bool (.lit false))] []⟩,
 ⟨some 16,true,none,iEq false true 6 [(0,.bool),(1,.bool),(2,.bool),(3,.bool),(4,.bool),(5,.bool)] (.t 14) (.t 15)⟩])
 (cCond (.t 16) (cSeq (dOps 0 [⟨⟨some 17,false,none,iLoad (.t 3)⟩,[3],false,0,0,none,[]⟩,
 ⟨⟨some 18,false,none,iLoad (.t 4)⟩,[4],false,0,0,none,[]⟩,
 ⟨⟨some 19,false,none,iMov (.t 0)⟩,[0],false,0,0,none,[]⟩,
 ⟨⟨some 20,false,none,iMov (.t 0)⟩,[0],false,0,0,none,[]⟩,
 ⟨⟨some 21,false,none,iSlice 1 (.t 18) none (some (.t 19)) (some (.t 20))⟩,[18,19,20],false,0,0,none,[]⟩,
 ⟨⟨some 22,false,none,iCall (.t 17) [(.t 21)]⟩,[17,21],true,0,0,none,[]⟩,
 ⟨⟨some 10,true,none,iMov (.t 22)⟩,[22],false,1,1,none,[]⟩])
 cRet) cSkip))
 (cSeq cSkip
 (cSeq (cSeq (cOps [⟨some 23,true,none,iMov (.c (.int .i64 (.lit 0)))⟩])
 (cBlock 0 (cLoop (cSeq (cOps [⟨some 24,true,none,iCmp .lss (.t 23) (.c (.int .i64 (.lit 6)))⟩])
 (cSeq (cCond (.t 24) cSkip (cExit 0))
 (cSeq (cBlock 1 (cSeq (cOps [⟨some 25,false,none,iMov (.t 23)⟩,
 ⟨some 11,true,none,iMov (.t 25)⟩])
 (cSeq (cSeq (cOps [⟨some 26,false,none,iMov (.t 11)⟩,
 ⟨some 27,false,none,iIaddrA 1 6 (.t 8) (.t 26)⟩,
 ⟨some 28,false,none,iLoad (.t 27)⟩,
 ⟨some 29,true,none,iNot (.t 28)⟩])
 (cCond (.t 29) (cExit 1) cSkip))
 (cSeq (cOps [⟨some 30,false,none,iLoad (.t 5)⟩,
 ⟨some 31,false,none,iMov (.t 11)⟩,
 ⟨some 32,false,none,iLoadN 2 (.t 9)⟩,
 ⟨some 33,false,none,iBuild [(.int .i64 (.lit 0)),(.int .i64 (.lit 0)),(.int .i64 (.lit 0))] [(0,1,(.t 31)),(1,2,(.t 32))]⟩,
 ⟨some 34,false,none,iCall (.t 30) [(.t 33)]⟩,
 ⟨some 12,true,none,iAlloc 128 [(.int .i64 (.lit 0)),(.int .i64 (.lit 0))]⟩,
 ⟨none,false,none,iStore 2 (.t 12) (.t 34)⟩])
 (cSeq (cSeq (cOps [⟨some 35,false,none,iLoadN 2 (.t 12)⟩,
 ⟨some 36,false,none,iBuild [(.int .i64 (.lit 0)),(.int .i64 (.lit 0))] []⟩,
 ⟨some 37,true,none,iEq false true 2 [(0,.int),(1,.int)] (.t 35) (.t 36)⟩])
 (cCond (.t 37) (cExit 1) cSkip))
 (cSeq (cOps [⟨some 38,false,none,iLoad (.t 4)⟩,
 ⟨some 39,false,none,iMov (.t 0)⟩,
 ⟨some 40,false,none,iMov (.t 11)⟩,
 ⟨some 41,false,none,iIaddr 1 (.t 38) (.t 39)⟩,
 ⟨none,false,none,iStore 1 (.t 41) (.t 40)⟩])
 (cSeq (cOps [⟨some 42,false,none,iLoadN 6 (.t 8)⟩,
 ⟨some 13,true,none,iAlloc 120 [(.bool (.lit false)),(.bool (.lit false)),(.bool (.lit false)),(.bool (.lit false)),(.bool (.lit false)),(.bool (.lit false))]⟩,
 ⟨none,false,none,iStore 6 (.t 13) (.t 42)⟩])
 (cSeq (cOps [⟨some 43,false,none,iMov (.t 11)⟩,
 ⟨some 44,false,none,iIaddrA 1 6 (.t 13) (.t 43)⟩,
 ⟨none,false,none,iStore 1 (.t 44) (.c (.bool (.lit false)))⟩])
 (cSeq (cOps [⟨some 45,false,none,iLoad (.t 6)⟩,
 ⟨some 46,false,none,iMov (.t 0)⟩,
 ⟨some 47,false,none,iArith .add (.t 46) (.c (.int .i64 (.lit 1)))⟩,
 ⟨some 48,false,none,iLoadN 6 (.t 13)⟩,
 ⟨some 49,false,none,iLoadN 2 (.t 12)⟩,
 ⟨some 50,false,none,iCall (.t 45) [(.t 47),(.t 48),(.t 49)]⟩,
 ⟨some 51,true,none,iNot (.t 50)⟩])
 (cCond (.t 51) (cSeq (cOps [⟨some 10,true,none,iMov (.c (.bool (.lit false)))⟩])
 cRet) cSkip))))))))))
 (cOps [⟨some 52,false,none,iArith .add (.t 23) (.c (.int .i64 (.lit 1)))⟩,
 ⟨some 23,true,none,iMov (.t 52)⟩])))))))
 (cSeq (cOps [⟨some 10,true,none,iMov (.c (.bool (.lit true)))⟩])
 cRet))))),[.t 10]⟩
noncomputable def Tryd.kp78 : List Nat := [0]
noncomputable def Tryd.cf78 : CF := ⟨0,(cSeq (cOps [⟨some 0,true,none,iAlloc 128 [(.int .i64 (.lit 0)),(.int .i64 (.lit 0))]⟩])
 (cSeq (cOps [⟨some 1,false,none,iBuild [(.int .i64 (.lit 0)),(.int .i64 (.lit 0))] [(0,1,(.c (.int .i64 (.lit 0)))),(1,1,(.c (.int .i64 (.lit 100))))]⟩,
 ⟨none,false,none,iStore 2 (.t 0) (.t 1)⟩])
 cRet)),[.cell 0 true 2]⟩
noncomputable def Tryd.kp79 : List Nat := [0,1,4]
noncomputable def Tryd.cf79 : CF := ⟨2,(cSeq (cOps [⟨some 4,true,none,iMov (.c (.bool (.lit false)))⟩])
 (cSeq (cOps [⟨some 5,false,none,iMov (.t 0)⟩,
 ⟨some 6,false,none,iMov (.t 1)⟩,
 ⟨some 7,false,none,iCall (.c (.func (.func 81) [] [])) [(.t 5),(.t 6)]⟩,
 ⟨some 8,false,none,iCmp .geq (.t 7) (.c (.int .i64 (.lit 0)))⟩,
 ⟨some 4,true,none,iMov (.t 8)⟩])
 cRet)),[.t 4]⟩
noncomputable def Tryd.kp80 : List Nat := [0,1,2,3,6,7,8,9,16,27]
noncomputable def Tryd.cf80 : CF := ⟨3,(cSeq (cOps [⟨some 3,true,none,iBox 26 (.t 0)⟩,
 ⟨some 6,true,none,iAlloc 24 [(.int .i64 (.lit 0)),(.int .i64 (.lit 0))]⟩,
 ⟨some 7,true,none,iMov (.c (.int .i64 (.lit 0)))⟩])
 (cSeq (cOps [⟨some 11,false,none,iLoadN 6 (.t 3)⟩,
 ⟨some 12,false,none,iCall (.c (.func (.func 57) [] [])) [(.t 11)]⟩,
 ⟨some 10,false,none,iMov (.t 12)⟩,
 ⟨some 13,false,none,iExtract 0 (.t 10)⟩,
 ⟨some 14,false,none,iExtract 1 (.t 10)⟩,
 ⟨some 8,true,none,iAlloc 98 [.nilslice,(.int .i64 (.lit 0)),(.int .i64 (.lit 0)),(.int .i64 (.lit 0)),(.int .i64 (.lit 0)),(.int .i64 (.lit 0)),.nilmap]⟩,
 ⟨none,false,none,iStore 7 (.t 8) (.t 13)⟩,
 ⟨some 9,true,none,iMov (.t 14)⟩])
 (cSeq (cSeq (cOps [⟨some 15,false,none,iMov (.t 9)⟩,
 ⟨some 16,true,none,iCmp .neq (.t 15) (.c (.int .i64 (.lit 0)))⟩])
 (cCond (.t 16) (cSeq (cOps [⟨some 17,false,none,iBuild [(.int .i64 (.lit 0)),(.int .i64 (.lit 0))] []⟩,
 ⟨some 18,false,none,iMov (.t 9)⟩,
 ⟨none,false,none,iStore 2 (.t 6) (.t 17)⟩,
 ⟨some 7,true,none,iMov (.t 18)⟩])
 cRet) cSkip))
 (cSeq (cSeq (cOps [⟨some 19,false,none,iLoadN 7 (.t 8)⟩,
 ⟨some 20,false,none,iMov (.t 1)⟩,
 ⟨some 21,false,none,iCall (.c (.func (.func 82) [] [])) [(.t 19),(.t 20)]⟩,
 ⟨some 22,false,none,iNot (.t 21)⟩,
 ⟨some 23,false,none,iMov (.t 22)⟩,
 ⟨some 24,false,some (23,false),iMov (.t 2)⟩,
 ⟨some 25,false,some (23,false),iCall (.c (.func (.func 83) [] [])) [(.t 24)]⟩,
 ⟨some 26,false,some (23,false),iNot (.t 25)⟩,
 ⟨some 27,true,none,iPick (.t 23) (.c (.bool (.lit true))) (.t 26)⟩])
 (cCond (.t 27) (cSeq (cOps [⟨some 28,false,none,iBuild [(.int .i64 (.lit 0)),(.int .i64 (.lit 0))] []⟩,
 ⟨none,false,none,iStore 2 (.t 6) (.t 28)⟩,
 ⟨some 7,true,none,iMov (.c (.int .i64 (.lit 11)))⟩])
 cRet) cSkip))
 (cSeq (cOps [⟨some 29,false,none,iLoadN 7 (.t 8)⟩,
 ⟨some 30,false,none,iMov (.t 1)⟩,
 ⟨some 31,false,none,iMov (.t 2)⟩,
 ⟨some 32,false,none,iCall (.c (.func (.func 84) [] [])) [(.t 29),(.t 30),(.t 31)]⟩,
 ⟨none,false,none,iStore 2 (.t 6) (.t 32)⟩,
 ⟨some 7,true,none,iMov (.c (.int .i64 (.lit 0)))⟩])
 cRet))))),[.cell 6 true 2,.t 7]⟩
noncomputable def Tryd.kp81 : List Nat := [0,1,4,5,7,8,9,16]
noncomputable def Tryd.cf81 : CF := ⟨2,(cSeq (cOps [⟨some 4,true,none,iMov (.c (.int .i64 (.lit 0)))⟩])
 (cSeq (cSeq (cOps [⟨some 6,false,none,iMov (.t 0)⟩,
 ⟨some 7,true,none,iLenS (.t 6)⟩,
 ⟨some 8,true,none,iMov (.c (.int .i64 (.lit 0)))⟩])
 (cBlock 0 (cLoop (cSeq (cOps [⟨some 9,true,none,iCmp .lss (.t 8) (.t 7)⟩])
 (cSeq (cCond (.t 9) cSkip (cExit 0))
 (cSeq (cBlock 1 (cSeq (cOps [⟨some 10,false,none,iMov (.t 8)⟩,
 ⟨some 5,true,none,iMov (.t 10)⟩])
 (cSeq (cOps [⟨some 11,false,none,iMov (.t 1)⟩,
 ⟨some 12,false,none,iMov (.t 0)⟩,
 ⟨some 13,false,none,iMov (.t 5)⟩,
 ⟨some 14,false,none,iIaddr 1 (.t 12) (.t 13)⟩,
 ⟨some 15,false,none,iLoad (.t 14)⟩,
 ⟨some 16,true,none,iCmp .eql (.t 11) (.t 15)⟩])
 (cCond (.t 16) (cSeq (cOps [⟨some 17,false,none,iMov (.t 5)⟩,
 ⟨some 4,true,none,iMov (.t 17)⟩])
 cRet) cSkip))))
 (cOps [⟨some 18,false,none,iArith .add (.t 8) (.c (.int .i64 (.lit 1)))⟩,
 ⟨some 8,true,none,iMov (.t 18)⟩])))))))
 (cSeq (cOps [⟨some 4,true,none,iMov (.c (.int .i64 (.lit (-1))))⟩])
 cRet))),[.t 4]⟩
noncomputable def Tryd.kp82 : List Nat := [0,1,2,4,5,7,8,9,10,11,22]
noncomputable def Tryd.cf82 : CF := ⟨2,(cSeq (cOps [⟨some 2,true,none,iBox 98 (.t 0)⟩,
 ⟨some 4,true,none,iMov (.c (.bool (.lit false)))⟩])
 (cSeq (cOps [⟨some 5,true,none,iAlloc 120 [(.bool (.lit false)),(.bool (.lit false)),(.bool (.lit false)),(.bool (.lit false)),(.bool (.lit false)),(.bool (.lit false))]⟩])
 (cSeq (cSeq (cOps [⟨some 8,true,none,iMov (.t 1)⟩,
 ⟨some 9,true,none,iLenS (.t 8)⟩,
 ⟨some 10,true,none,iMov (.c (.int .i64 (.lit 0)))⟩])
 (cBlock 0 (cLoop (cSeq (cOps [⟨some 11,true,none,iCmp .lss (.t 10) (.t 9)⟩])
 (cSeq (cCond (.t 11) cSkip (cExit 0))
 (cSeq (cBlock 1 (cSeq (cOps [⟨some 12,false,none,iIaddr 1 (.t 8) (.t 10)⟩,
 ⟨some 13,false,none,iLoad (.t 12)⟩,
 ⟨some 7,true,none,iMov (.t 13)⟩])
 (cSeq (cSeq (cOps [⟨some 14,false,none,iLoadN 7 (.t 2)⟩,
 ⟨some 15,false,none,iMov (.t 7)⟩,
 ⟨some 16,false,none,iCall (.c (.func (.func 85) [] [])) [(.t 14),(.t 15)]⟩,
 ⟨some 17,false,none,iNot (.t 16)⟩,
 ⟨some 18,false,none,iMov (.t 17)⟩,
 ⟨some 19,false,some (18,false),iMov (.t 7)⟩,
 ⟨some 20,false,some (18,false),iIaddrA 1 6 (.t 5) (.t 19)⟩,
 ⟨some 21,false,some (18,false),iLoad (.t 20)⟩,
 ⟨some 22,true,none,iPick (.t 18) (.c (.bool (.lit true))) (.t 21)⟩])
 (cCond (.t 22) (cSeq (cOps [⟨some 4,true,none,iMov (.c (.bool (.lit false)))⟩])
 cRet) cSkip))
 (cOps [⟨some 23,false,none,iMov (.t 7)⟩,
 ⟨some 24,false,none,iIaddrA 1 6 (.t 5) (.t 23)⟩,
 ⟨none,false,none,iStore 1 (.t 24) (.c (.bool (.lit true)))⟩]))))
 (cOps [⟨some 25,false,none,iArith .add (.t 10) (.c (.int .i64 (.lit 1)))⟩,
 ⟨some 10,true,none,iMov (.t 25)⟩])))))))
 (cSeq (cOps [⟨some 4,true,none,iMov (.c (.bool (.lit true)))⟩])
 cRet)))),[.t 4]⟩
noncomputable def Tryd.kp83 : List Nat := [0,2]
noncomputable def Tryd.cf83 : CF := ⟨1,(cSeq (cOps [⟨some 2,true,none,iMov (.c (.bool (.lit false)))⟩])
 (cSeq (cOps [⟨some 3,false,none,iMov (.t 0)⟩,
 ⟨some 4,false,none,iCmp .geq (.t 3) (.c (.int .i64 (.lit 0)))⟩,
 ⟨some 5,false,none,iMov (.t 4)⟩,
 ⟨some 6,false,some (5,true),iMov (.t 0)⟩,
 ⟨some 7,false,some (5,true),iCmp .leq (.t 6) (.c (.int .i64 (.lit 999)))⟩,
 ⟨some 8,false,none,iPick (.t 5) (.t 7) (.c (.bool (.lit false)))⟩,
 ⟨some 2,true,none,iMov (.t 8)⟩])
 cRet)),[.t 2]⟩
noncomputable def Tryd.kp84 : List Nat := [0,1,2,3,4,5,6]
noncomputable def Tryd.cf84 : CF := ⟨3,(cSeq (cOps [⟨some 3,true,none,iBox 98 (.t 0)⟩,
 ⟨some 4,true,none,iBox 29 (.t 1)⟩,
 ⟨some 5,true,none,iBox 3 (.t 2)⟩,
 ⟨some 6,true,none,iAlloc 24 [(.int .i64 (.lit 0)),(.int .i64 (.lit 0))]⟩])
 (cSeq (cOps [⟨some 7,false,none,iFunc (.func 87) [] [(.t 4),(.t 3),(.t 5)]⟩,
 ⟨some 8,false,none,iCall (.c (.func (.func 86) [] [])) [(.t 7)]⟩,
 ⟨none,false,none,iStore 2 (.t 6) (.t 8)⟩])
 cRet)),[.cell 6 true 2]⟩
noncomputable def Tryd.kp85 : List Nat := [0,1,2,4]
noncomputable def Tryd.cf85 : CF := ⟨2,(cSeq (cOps [⟨some 2,true,none,iBox 98 (.t 0)⟩,
 ⟨some 4,true,none,iMov (.c (.bool (.lit false)))⟩])
 (cSeq (cOps [⟨some 5,false,none,iMov (.t 1)⟩,
 ⟨some 6,false,none,iCmp .geq (.t 5) (.c (.int .i64 (.lit 0)))⟩,
 ⟨some 7,false,none,iMov (.t 6)⟩,
 ⟨some 8,false,some (7,true),iMov (.t 1)⟩,
 ⟨some 9,false,some (7,true),iFaddr 0 (.t 2)⟩,
 ⟨some 10,false,some (7,true),iFaddr 0 (.t 9)⟩,
 ⟨some 11,false,some (7,true),iLoad (.t 10)⟩,
 ⟨some 12,false,some (7,true),iLenS (.t 11)⟩,
 ⟨some 13,false,some (7,true),iCmp .lss (.t 8) (.t 12)⟩,
 ⟨some 14,false,none,iPick (.t 7) (.t 13) (.c (.bool (.lit false)))⟩,
 ⟨some 4,true,none,iMov (.t 14)⟩])
 cRet)),[.t 4]⟩
noncomputable def Tryd.kp86 : List Nat := [0,2,3,4]
noncomputable def Tryd.cf86 : CF := ⟨1,(cSeq (cOps [⟨some 2,true,none,iAlloc 24 [(.int .i64 (.lit 0)),(.int .i64 (.lit 0))]⟩])
 (cSeq (cOps [⟨some 6,false,none,iCall (.c (.func (.func 90) [] [])) []⟩,
 ⟨some 5,false,none,iMov (.t 6)⟩,
 ⟨some 7,false,none,iExtract 0 (.t 5)⟩,
 ⟨some 8,false,none,iExtract 1 (.t 5)⟩,
 ⟨some 3,true,none,iAlloc 139 [.nilFunc,.nilFunc]⟩,
 ⟨some 4,true,none,iAlloc 139 [.nilFunc,.nilFunc]⟩,
 ⟨none,false,none,iStore 2 (.t 3) (.t 7)⟩,
 ⟨none,false,none,iStore 2 (.t 4) (.t 8)⟩])
 (cSeq (dOps 0 [⟨⟨some 9,false,none,iMov (.t 0)⟩,[0],false,0,0,none,[]⟩,
 ⟨⟨some 10,false,none,iLoadN 2 (.t 3)⟩,[3],false,0,0,none,[]⟩,
 ⟨⟨some 11,false,none,iCall (.t 9) [(.t 10)]⟩,[9,10],true,0,0,none,[]⟩,
 ⟨⟨some 12,false,none,iMov (.t 0)⟩,[0],false,0,1,none,[]⟩,
 ⟨⟨some 13,false,none,iLoadN 2 (.t 4)⟩,[4],false,0,1,none,[]⟩,
 ⟨⟨some 14,false,none,iCall (.t 12) [(.t 13)]⟩,[12,13],true,1,0,none,[]⟩,
 ⟨⟨some 15,false,none,iBuild [(.int .i64 (.lit 0)),(.int .i64 (.lit 0))] [(0,1,(.t 11)),(1,1,(.t 14))]⟩,[11,14],false,2,2,none,[]⟩,
 ⟨⟨none,false,none,iStore 2 (.t 2) (.t 15)⟩,[2,15],true,2,0,none,[]⟩])
 cRet))),[.cell 2 true 2]⟩
noncomputable def Tryd.kp87 : List Nat := [0,1,2,3,4,5,6,7,8,12,13,14,15]
noncomputable def Tryd.cf87 : CF := ⟨4,(cSeq (cOps [⟨some 4,true,none,iBox 139 (.t 0)⟩,
 ⟨some 5,true,none,iMov (.c (.int .i64 (.lit 0)))⟩])
 (cSeq (cOps [⟨some 9,false,none,iLoad (.t 1)⟩,
 ⟨some 10,false,none,iLenS (.t 9)⟩,
 ⟨some 11,false,none,iMkslice 3 [(.int .i64 (.lit 0))] 8 (.t 10) (.t 10)⟩,
 ⟨some 6,true,none,iMov (.t 11)⟩])
 (cSeq (cSeq (cOps [⟨some 12,true,none,iLoad (.t 1)⟩,
 ⟨some 13,true,none,iLenS (.t 12)⟩,
 ⟨some 14,true,none,iMov (.c (.int .i64 (.lit 0)))⟩])
 (cBlock 0 (cLoop (cSeq (cOps [⟨some 15,true,none,iCmp .lss (.t 14) (.t 13)⟩])
 (cSeq (cCond (.t 15) cSkip (cExit 0))
 (cSeq (cBlock 1 (cSeq (cOps [⟨some 16,false,none,iMov (.t 14)⟩,
 ⟨some 17,false,none,iIaddr 1 (.t 12) (.t 14)⟩,
 ⟨some 18,false,none,iLoad (.t 17)⟩,
 ⟨some 7,true,none,iMov (.t 16)⟩,
 ⟨some 8,true,none,iMov (.t 18)⟩])
 (cOps [⟨some 19,false,none,iMov (.t 6)⟩,
 ⟨some 20,false,none,iMov (.t 7)⟩,
 ⟨some 21,false,none,iLoadN 7 (.t 2)⟩,
 ⟨some 22,false,none,iMov (.t 8)⟩,
 ⟨some 23,false,none,iLoad (.t 3)⟩,
 ⟨some 24,false,none,iLoadN 2 (.t 4)⟩,
 ⟨some 25,false,none,iCall (.c (.func (.func 88) [] [])) [(.t 21),(.t 22),(.t 23),(.t 24)]⟩,
 ⟨some 26,false,none,iIaddr 1 (.t 19) (.t 20)⟩,
 ⟨none,false,none,iStore 1 (.t 26) (.t 25)⟩])))
 (cOps [⟨some 27,false,none,iArith .add (.t 14) (.c (.int .i64 (.lit 1)))⟩,
 ⟨some 14,true,none,iMov (.t 27)⟩])))))))
 (cSeq (dOps 0 [⟨⟨some 28,false,none,iMov (.t 6)⟩,[6],false,0,0,none,[]⟩,
 ⟨⟨some 29,false,none,iCall (.c (.func (.func 89) [] [])) [(.t 28)]⟩,[28],true,0,0,none,[]⟩,
 ⟨⟨some 30,false,none,iFaddr 0 (.t 4)⟩,[4],false,0,1,none,[]⟩,
 ⟨⟨some 31,false,none,iLoad (.t 30)⟩,[30],false,0,1,none,[]⟩,
 ⟨⟨some 32,false,none,iFaddr 0 (.t 2)⟩,[2],false,0,1,none,[]⟩,
 ⟨⟨some 33,false,none,iFaddr 1 (.t 32)⟩,[32],false,0,1,none,[]⟩,
 ⟨⟨some 34,false,none,iLoadN 2 (.t 33)⟩,[33],false,0,1,none,[]⟩,
 ⟨⟨some 35,false,none,iCall (.t 31) [(.t 34)]⟩,[31,34],true,1,0,none,[]⟩,
 ⟨⟨some 36,false,none,iArith .mul (.t 29) (.t 35)⟩,[29,35],false,2,2,none,[]⟩,
 ⟨⟨some 5,true,none,iMov (.t 36)⟩,[36],false,2,2,none,[]⟩])
 cRet)))),[.t 5]⟩
noncomputable def Tryd.kp88 : List Nat := [0,1,2,3,4,7,8,9,10]
noncomputable def Tryd.cf88 : CF := ⟨4,(cSeq (cOps [⟨some 4,true,none,iBox 98 (.t 0)⟩,
 ⟨some 7,true,none,iBox 139 (.t 3)⟩,
 ⟨some 8,true,none,iMov (.c (.int .i64 (.lit 0)))⟩])
 (cSeq (dOps 0 [⟨⟨some 11,false,none,iFaddr 0 (.t 7)⟩,[7],false,0,0,none,[]⟩,
 ⟨⟨some 12,false,none,iLoad (.t 11)⟩,[11],false,0,0,none,[]⟩,
 ⟨⟨some 13,false,none,iFaddr 0 (.t 4)⟩,[4],false,0,0,none,[]⟩,
 ⟨⟨some 14,false,none,iFaddr 0 (.t 13)⟩,[13],false,0,0,none,[]⟩,
 ⟨⟨some 15,false,none,iLoad (.t 14)⟩,[14],false,0,0,none,[]⟩,
 ⟨⟨some 16,false,none,iMov (.t 1)⟩,[1],false,0,0,none,[]⟩,
 ⟨⟨some 17,false,none,iIaddr 6 (.t 15) (.t 16)⟩,[15,16],false,0,0,none,[]⟩,
 ⟨⟨some 18,false,none,iFaddr 4 (.t 17)⟩,[17],false,0,0,none,[]⟩,
 ⟨⟨some 19,false,none,iLoadN 2 (.t 18)⟩,[18],false,0,0,none,[]⟩,
 ⟨⟨some 20,false,none,iCall (.t 12) [(.t 19)]⟩,[12,19],true,0,0,none,[]⟩,
 ⟨⟨some 21,false,none,iFaddr 1 (.t 7)⟩,[7],false,0,1,none,[]⟩,
 ⟨⟨some 22,false,none,iLoad (.t 21)⟩,[21],false,0,1,none,[]⟩,
 ⟨⟨some 23,false,none,iFaddr 0 (.t 4)⟩,[4],false,0,1,none,[]⟩,
 ⟨⟨some 24,false,none,iFaddr 3 (.t 23)⟩,[23],false,0,1,none,[]⟩,
 ⟨⟨some 25,false,none,iLoadN 2 (.t 24)⟩,[24],false,0,1,none,[]⟩,
 ⟨⟨some 26,false,none,iCall (.t 22) [(.t 25)]⟩,[22,25],true,1,0,none,[]⟩,
 ⟨⟨some 9,true,none,iMov (.t 20)⟩,[20],false,2,2,none,[]⟩,
 ⟨⟨some 10,true,none,iMov (.t 26)⟩,[26],false,2,2,none,[]⟩])
 (cSeq (cOps [⟨some 27,false,none,iMov (.t 9)⟩,
 ⟨some 28,false,none,iMov (.t 2)⟩,
 ⟨some 29,false,none,iMov (.t 10)⟩,
 ⟨some 30,false,none,iArith .mul (.t 28) (.t 29)⟩,
 ⟨some 31,false,none,iArith .sub (.t 27) (.t 30)⟩,
 ⟨some 32,false,none,iMax [(.c (.int .i64 (.lit 0))),(.t 31)]⟩,
 ⟨some 8,true,none,iMov (.t 32)⟩])
 cRet))),[.t 8]⟩
noncomputable def Tryd.kp89 : List Nat := [0,2,3,5,6,7,8,9]
noncomputable def Tryd.cf89 : CF := ⟨1,(cSeq (cOps [⟨some 2,true,none,iMov (.c (.int .i64 (.lit 0)))⟩])
 (cSeq (cOps [⟨some 3,true,none,iMov (.c (.int .i64 (.lit 0)))⟩])
 (cSeq (cSeq (cOps [⟨some 6,true,none,iMov (.t 0)⟩,
 ⟨some 7,true,none,iLenS (.t 6)⟩,
 ⟨some 8,true,none,iMov (.c (.int .i64 (.lit 0)))⟩])
 (cBlock 0 (cLoop (cSeq (cOps [⟨some 9,true,none,iCmp .lss (.t 8) (.t 7)⟩])
 (cSeq (cCond (.t 9) cSkip (cExit 0))
 (cSeq (cBlock 1 (cSeq (cOps [⟨some 10,false,none,iIaddr 1 (.t 6) (.t 8)⟩,
 ⟨some 11,false,none,iLoad (.t 10)⟩,
 ⟨some 5,true,none,iMov (.t 11)⟩])
 (cOps [⟨some 12,false,none,iMov (.t 3)⟩,
 ⟨some 13,false,none,iMov (.t 5)⟩,
 ⟨some 14,false,none,iArith .add (.t 12) (.t 13)⟩,
 ⟨some 3,true,none,iMov (.t 14)⟩])))
 (cOps [⟨some 15,false,none,iArith .add (.t 8) (.c (.int .i64 (.lit 1)))⟩,
 ⟨some 8,true,none,iMov (.t 15)⟩])))))))
 (cSeq (cOps [⟨some 16,false,none,iMov (.t 3)⟩,
 ⟨some 2,true,none,iMov (.t 16)⟩])
 cRet)))),[.t 2]⟩
noncomputable def Tryd.kp90 : List Nat := [0,1,2]
noncomputable def Tryd.cf90 : CF := ⟨0,(cSeq (cOps [⟨some 0,true,none,iAlloc 139 [.nilFunc,.nilFunc]⟩,
 ⟨some 1,true,none,iAlloc 139 [.nilFunc,.nilFunc]⟩])
 (cSeq (cOps [⟨some 3,false,none,iBuild [.nilFunc,.nilFunc] [(0,1,(.c (.func (.func 91) [] []))),(1,1,(.c (.func (.func 92) [] [])))]⟩,
 ⟨some 4,false,none,iBuild [.nilFunc,.nilFunc] [(0,1,(.c (.func (.func 92) [] []))),(1,1,(.c (.func (.func 91) [] [])))]⟩,
 ⟨some 5,false,none,iBuild [.nilFunc,.nilFunc,.nilFunc,.nilFunc] [(0,2,(.t 3)),(2,2,(.t 4))]⟩,
 ⟨some 2,true,none,iAlloc 146 [.nilFunc,.nilFunc,.nilFunc,.nilFunc]⟩,
 ⟨none,false,none,iStore 4 (.t 2) (.t 5)⟩])
 (cSeq (dOps 0 [⟨⟨some 6,false,none,iIaddrA 2 2 (.t 2) (.c (.int .i64 (.lit 0)))⟩,[2],false,0,0,none,[]⟩,
 ⟨⟨some 7,false,none,iLoadN 2 (.t 6)⟩,[6],false,0,0,none,[]⟩,
 ⟨⟨some 8,false,none,iIaddrA 2 2 (.t 2) (.c (.int .i64 (.lit 1)))⟩,[2],false,0,1,none,[]⟩,
 ⟨⟨some 9,false,none,iLoadN 2 (.t 8)⟩,[8],false,0,1,none,[]⟩,
 ⟨⟨none,false,none,iStore 2 (.t 0) (.t 7)⟩,[0,7],true,0,0,none,[]⟩,
 ⟨⟨none,false,none,iStore 2 (.t 1) (.t 9)⟩,[1,9],true,1,0,none,[]⟩])
 cRet))),[.cell 0 true 2,.cell 1 true 2]⟩
noncomputable def Tryd.kp91 : List Nat := [0,1,2]
noncomputable def Tryd.cf91 : CF := ⟨1,(cSeq (cOps [⟨some 1,true,none,iBox 142 (.t 0)⟩,
 ⟨some 2,true,none,iMov (.c (.int .i64 (.lit 0)))⟩])
 (cSeq (cOps [⟨some 3,false,none,iFaddr 0 (.t 1)⟩,
 ⟨some 4,false,none,iLoad (.t 3)⟩,
 ⟨some 2,true,none,iMov (.t 4)⟩])
 cRet)),[.t 2]⟩
noncomputable def Tryd.kp92 : List Nat := [0,1,2]
noncomputable def Tryd.cf92 : CF := ⟨1,(cSeq (cOps [⟨some 1,true,none,iBox 142 (.t 0)⟩,
 ⟨some 2,true,none,iMov (.c (.int .i64 (.lit 0)))⟩])
 (cSeq (cOps [⟨some 3,false,none,iFaddr 1 (.t 1)⟩,
 ⟨some 4,false,none,iLoad (.t 3)⟩,
 ⟨some 2,true,none,iMov (.t 4)⟩])
 cRet)),[.t 2]⟩
noncomputable def Tryd.ft : PT CF := (.node none (.node none (.node (some Tryd.cf3) (.node (some Tryd.cf7) (.node (some Tryd.cf15) (.node (some Tryd.cf31) (.node (some Tryd.cf63) .nil .nil) .nil) (.node (some Tryd.cf47) (.node (some Tryd.cf79) .nil .nil) .nil)) (.node (some Tryd.cf23) (.node (some Tryd.cf39) (.node (some Tryd.cf71) .nil .nil) .nil) (.node (some Tryd.cf55) (.node (some Tryd.cf87) .nil .nil) .nil))) (.node (some Tryd.cf11) (.node (some Tryd.cf19) (.node (some Tryd.cf35) (.node (some Tryd.cf67) .nil .nil) .nil) (.node (some Tryd.cf51) (.node (some Tryd.cf83) .nil .nil) .nil)) (.node (some Tryd.cf27) (.node (some Tryd.cf43) (.node (some Tryd.cf75) .nil .nil) .nil) (.node (some Tryd.cf59) (.node (some Tryd.cf91) .nil .nil) .nil)))) (.node none (.node (some Tryd.cf9) (.node (some Tryd.cf17) (.node (some Tryd.cf33) (.node (some Tryd.cf65) .nil .nil) .nil) (.node (some Tryd.cf49) (.node (some Tryd.cf81) .nil .nil) .nil)) (.node (some Tryd.cf25) (.node (some Tryd.cf41) (.node (some Tryd.cf73) .nil .nil) .nil) (.node (some Tryd.cf57) (.node (some Tryd.cf89) .nil .nil) .nil))) (.node (some Tryd.cf13) (.node (some Tryd.cf21) (.node (some Tryd.cf37) (.node (some Tryd.cf69) .nil .nil) .nil) (.node (some Tryd.cf53) (.node (some Tryd.cf85) .nil .nil) .nil)) (.node (some Tryd.cf29) (.node (some Tryd.cf45) (.node (some Tryd.cf77) .nil .nil) .nil) (.node (some Tryd.cf61) .nil .nil))))) (.node none (.node none (.node (some Tryd.cf8) (.node (some Tryd.cf16) (.node (some Tryd.cf32) (.node (some Tryd.cf64) .nil .nil) .nil) (.node (some Tryd.cf48) (.node (some Tryd.cf80) .nil .nil) .nil)) (.node (some Tryd.cf24) (.node (some Tryd.cf40) (.node (some Tryd.cf72) .nil .nil) .nil) (.node (some Tryd.cf56) (.node (some Tryd.cf88) .nil .nil) .nil))) (.node (some Tryd.cf12) (.node (some Tryd.cf20) (.node (some Tryd.cf36) (.node (some Tryd.cf68) .nil .nil) .nil) (.node (some Tryd.cf52) (.node (some Tryd.cf84) .nil .nil) .nil)) (.node (some Tryd.cf28) (.node (some Tryd.cf44) (.node (some Tryd.cf76) .nil .nil) .nil) (.node (some Tryd.cf60) (.node (some Tryd.cf92) .nil .nil) .nil)))) (.node (some Tryd.cf6) (.node (some Tryd.cf10) (.node (some Tryd.cf18) (.node (some Tryd.cf34) (.node (some Tryd.cf66) .nil .nil) .nil) (.node (some Tryd.cf50) (.node (some Tryd.cf82) .nil .nil) .nil)) (.node (some Tryd.cf26) (.node (some Tryd.cf42) (.node (some Tryd.cf74) .nil .nil) .nil) (.node (some Tryd.cf58) (.node (some Tryd.cf90) .nil .nil) .nil))) (.node (some Tryd.cf14) (.node (some Tryd.cf22) (.node (some Tryd.cf38) (.node (some Tryd.cf70) .nil .nil) .nil) (.node (some Tryd.cf54) (.node (some Tryd.cf86) .nil .nil) .nil)) (.node (some Tryd.cf30) (.node (some Tryd.cf46) (.node (some Tryd.cf78) .nil .nil) .nil) (.node (some Tryd.cf62) .nil .nil))))))
noncomputable def Tryd.rt : List (Nat × (C × C)) := [(19011,(Tryd.ra19011,Tryd.rb19011)),(39017,(Tryd.ra39017,Tryd.rb39017))]
end Go.Sx
