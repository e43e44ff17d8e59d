/- Tab -/
import Derived.Test.YtlaakbmimplceaaDoorSxOps3
import Derived.KernelRfl
namespace Go.Sx
noncomputable section
set_option maxRecDepth 100000
def oF (n : Nat) (i : Ins) : CI := ⟨some n, false, none, i⟩
def oT (n : Nat) (i : Ins) : CI := ⟨some n, true, none, i⟩
def oN (i : Ins) : CI := ⟨none, false, none, i⟩
def Tryd.ti3 : TI := ⟨.int .i64, 1, 8, (some (.int .i64 (.lit 0))), false⟩
def Tryd.ti4 : TI := ⟨.bool, 1, 1, (some (.bool (.lit false))), false⟩
def Tryd.ti22 : TI := ⟨.slice 53, 1, 24, (some .nilslice), false⟩
def Tryd.ti24 : TI := ⟨.struct #[⟨ "Low", 3, 0, false, "", "", 0⟩, ⟨ "High", 3, 1, false, "", "", 8⟩], 2, 16, (some (.agg [(.int .i64 (.lit 0)), (.int .i64 (.lit 0))])), true⟩
def Tryd.ti26 : TI := ⟨.struct #[⟨ "Reels", 22, 0, false, "", "", 0⟩, ⟨ "Turn", 24, 1, false, "", "", 24⟩, ⟨ "Tear", 24, 3, false, "", "", 40⟩, ⟨ "Spool", 3, 5, false, "", "", 56⟩], 6, 64, (some (.agg [.nilslice, (.int .i64 (.lit 0)), (.int .i64 (.lit 0)), (.int .i64 (.lit 0)), (.int .i64 (.lit 0)), (.int .i64 (.lit 0))])), true⟩
def Tryd.ti27 : TI := ⟨.slice 3, 1, 24, (some .nilslice), false⟩
def Tryd.ti28 : TI := ⟨.array 2 3, 2, 16, (some (.agg [(.int .i64 (.lit 0)), (.int .i64 (.lit 0))])), true⟩
def Tryd.ti33 : TI := ⟨.int .i64, 1, 8, (some (.int .i64 (.lit 0))), false⟩
def Tryd.ti53 : TI := ⟨.struct #[⟨ "First", 24, 0, false, "", "", 0⟩, ⟨ "Last", 24, 2, false, "", "", 16⟩, ⟨ "Feet", 24, 4, false, "", "", 32⟩], 6, 48, (some (.agg [(.int .i64 (.lit 0)), (.int .i64 (.lit 0)), (.int .i64 (.lit 0)), (.int .i64 (.lit 0)), (.int .i64 (.lit 0)), (.int .i64 (.lit 0))])), true⟩
def Tryd.ti67 : TI := ⟨.slice 24, 1, 24, (some .nilslice), false⟩
def Tryd.ti71 : TI := ⟨.map 104 100, 1, 8, (some .nilmap), false⟩
def Tryd.ti73 : TI := ⟨.struct #[⟨ "ReelFilm", 26, 0, true, "", "", 0⟩, ⟨ "found", 71, 6, false, "", "bioscope/reel", 64⟩], 7, 72, (some (.agg [.nilslice, (.int .i64 (.lit 0)), (.int .i64 (.lit 0)), (.int .i64 (.lit 0)), (.int .i64 (.lit 0)), (.int .i64 (.lit 0)), .nilmap])), true⟩
def Tryd.ti76 : TI := ⟨.func #[27] #[4] false, 1, 8, (some .nilFunc), false⟩
def Tryd.ti84 : TI := ⟨.array 6 4, 6, 6, (some (.agg [(.bool (.lit false)), (.bool (.lit false)), (.bool (.lit false)), (.bool (.lit false)), (.bool (.lit false)), (.bool (.lit false))])), true⟩
def Tryd.ti86 : TI := ⟨.func #[3, 3] #[4] false, 1, 8, (some .nilFunc), false⟩
def Tryd.ti88 : TI := ⟨.func #[115] #[3] false, 1, 8, (some .nilFunc), false⟩
def Tryd.ti90 : TI := ⟨.struct #[⟨ "adds", 88, 0, false, "", "bioscope/reel", 0⟩, ⟨ "takes", 88, 1, false, "", "bioscope/reel", 8⟩], 2, 16, (some (.agg [.nilFunc, .nilFunc])), true⟩
def Tryd.ti100 : TI := ⟨.struct #[⟨ "first", 3, 0, false, "", "bioscope/reel", 0⟩, ⟨ "behind", 3, 1, false, "", "bioscope/reel", 8⟩], 2, 16, (some (.agg [(.int .i64 (.lit 0)), (.int .i64 (.lit 0))])), true⟩
def Tryd.ti102 : TI := ⟨.func #[104] #[100] false, 1, 8, (some .nilFunc), false⟩
def Tryd.ti104 : TI := ⟨.struct #[⟨ "reel", 3, 0, false, "", "bioscope/reel", 0⟩, ⟨ "before", 100, 1, false, "", "bioscope/reel", 8⟩], 3, 24, (some (.agg [(.int .i64 (.lit 0)), (.int .i64 (.lit 0)), (.int .i64 (.lit 0))])), true⟩
def Tryd.ti110 : TI := ⟨.array 2 24, 4, 32, (some (.agg [(.int .i64 (.lit 0)), (.int .i64 (.lit 0)), (.int .i64 (.lit 0)), (.int .i64 (.lit 0))])), true⟩
def Tryd.ti115 : TI := ⟨.struct #[⟨ "Low", 3, 0, false, "", "", 0⟩, ⟨ "High", 3, 1, false, "", "", 8⟩], 2, 16, (some (.agg [(.int .i64 (.lit 0)), (.int .i64 (.lit 0))])), true⟩
def Tryd.ti116 : TI := ⟨.array 2 90, 4, 32, (some (.agg [.nilFunc, .nilFunc, .nilFunc, .nilFunc])), true⟩
def Tryd.ti119 : TI := ⟨.func #[3, 84, 100] #[4] false, 1, 8, (some .nilFunc), false⟩
def Tryd.ti120 : TI := ⟨.array 3 24, 6, 48, (some (.agg [(.int .i64 (.lit 0)), (.int .i64 (.lit 0)), (.int .i64 (.lit 0)), (.int .i64 (.lit 0)), (.int .i64 (.lit 0)), (.int .i64 (.lit 0))])), true⟩
def Tryd.tt : PT TI := (.node none (.node none (.node (some Tryd.ti3) (.node none .nil (.node none (.node none (.node (some Tryd.ti71) .nil .nil) .nil) (.node none .nil (.node (some Tryd.ti119) .nil .nil)))) (.node none (.node none (.node none (.node (some Tryd.ti67) .nil .nil) .nil) (.node none .nil (.node (some Tryd.ti115) .nil .nil))) (.node (some Tryd.ti27) .nil .nil))) (.node none (.node none (.node none (.node (some Tryd.ti33) .nil .nil) .nil) (.node none (.node none (.node (some Tryd.ti73) .nil .nil) .nil) .nil)) (.node none (.node none .nil (.node (some Tryd.ti53) .nil .nil)) .nil))) (.node none (.node (some Tryd.ti4) (.node none .nil (.node (some Tryd.ti24) (.node none .nil (.node (some Tryd.ti104) .nil .nil)) (.node none (.node (some Tryd.ti88) .nil .nil) (.node (some Tryd.ti120) .nil .nil)))) (.node none (.node none (.node none .nil (.node (some Tryd.ti100) .nil .nil)) (.node none (.node (some Tryd.ti84) .nil .nil) (.node (some Tryd.ti116) .nil .nil))) (.node (some Tryd.ti28) (.node none (.node (some Tryd.ti76) .nil .nil) .nil) .nil))) (.node none (.node none .nil (.node (some Tryd.ti26) .nil (.node none (.node (some Tryd.ti90) .nil .nil) .nil))) (.node none (.node (some Tryd.ti22) (.node none .nil (.node (some Tryd.ti102) .nil .nil)) (.node none (.node (some Tryd.ti86) .nil .nil) .nil)) (.node none (.node none .nil (.node (some Tryd.ti110) .nil .nil)) .nil)))))
def Tryd.kp3 : List Nat := [0, 1, 2, 3, 5, 6, 7, 8, 9, 10, 11, 12, 13, 14, 15, 16, 17, 18, 19, 20, 21, 24, 91, 95, 130]
def Tryd.cf3 : CF := ⟨3, (cSeq (cOps [(oT 3 (iBox 26 (.t 0))),
 (oT 5 (iBox 28 (.t 2))),
 (oT 6 (iMov (.c (.bool (.lit false)))))])
 (cSeq (cSeq (cOps [(oF 22 (iLoadN 6 (.t 3))),
 (oF 23 (iCall (.c (.func (.func 7) [] [])) [(.t 22)])),
 (oT 24 (iNot (.t 23)))])
 (cCond (.t 24) (cSeq (cOps [(oF 25 (iCall (.c (.func (.func 8) [] [])) [])),
 (oT 6 (iMov (.t 25)))])
 cRet) cSkip))
 (cSeq (cOps [(oF 27 (iLoadN 6 (.t 3))),
 (oF 28 (iMov (.t 1))),
 (oF 29 (iCall (.c (.func (.func 9) [] [])) [(.t 27), (.t 28)])),
 (oF 26 (iMov (.t 29))),
 (oF 30 (iExtract 0 (.t 26))),
 (oF 31 (iExtract 1 (.t 26))),
 (oT 7 (iAlloc 26 [.nilslice, (.int .i64 (.lit 0)), (.int .i64 (.lit 0)), (.int .i64 (.lit 0)), (.int .i64 (.lit 0)), (.int .i64 (.lit 0))])),
 (oN (iStore 6 (.t 7) (.t 30))),
 (oT 8 (iMov (.t 31)))])
 (cSeq (cOps [(oF 33 (iLoadN 6 (.t 7))),
 (oF 34 (iMov (.t 8))),
 (oF 35 (iCall (.c (.func (.func 10) [] [])) [(.t 33), (.t 34)])),
 (oF 32 (iMov (.t 35))),
 (oF 36 (iExtract 0 (.t 32))),
 (oF 37 (iExtract 1 (.t 32))),
 (oT 9 (iMov (.t 36))),
 (oT 10 (iMov (.t 37)))])
 (cSeq (cOps [(oF 39 (iLoadN 6 (.t 7))),
 (oF 40 (iCall (.c (.func (.func 11) [] [])) [(.t 39)])),
 (oF 38 (iMov (.t 40))),
 (oF 41 (iExtract 0 (.t 38))),
 (oF 42 (iExtract 1 (.t 38))),
 (oT 11 (iMov (.t 41))),
 (oT 12 (iMov (.t 42)))])
 (cSeq (cOps [(oF 44 (iLoadN 6 (.t 7))),
 (oF 45 (iCall (.c (.func (.func 12) [] [])) [(.t 44)])),
 (oF 43 (iMov (.t 45))),
 (oF 46 (iExtract 0 (.t 43))),
 (oF 47 (iExtract 1 (.t 43))),
 (oT 13 (iMov (.t 46))),
 (oT 14 (iMov (.t 47)))])
 (cSeq (cOps [(oF 49 (iLoadN 6 (.t 7))),
 (oF 50 (iCall (.c (.func (.func 13) [] [])) [(.t 49)])),
 (oF 48 (iMov (.t 50))),
 (oF 51 (iExtract 0 (.t 48))),
 (oF 52 (iExtract 1 (.t 48))),
 (oT 15 (iMov (.t 51))),
 (oT 16 (iMov (.t 52)))])
 (cSeq (cSeq (cOps [(oF 53 (iMov (.t 10))),
 (oF 54 (iCmp .neq (.t 53) (.c (.int .i64 (.lit 0))))),
 (oF 55 (iMov (.t 54))),
 ⟨some 56, false, some (55, false), iMov (.t 12)⟩,
 ⟨some 57, false, some (55, false), iCmp .neq (.t 56) (.c (.int .i64 (.lit 0)))⟩,
 (oF 58 (iPick (.t 55) (.c (.bool (.lit true))) (.t 57))),
 (oF 59 (iMov (.t 58))),
 ⟨some 60, false, some (59, false), iMov (.t 14)⟩,
 ⟨some 61, false, some (59, false), iCmp .neq (.t 60) (.c (.int .i64 (.lit 0)))⟩,
 (oF 62 (iPick (.t 59) (.c (.bool (.lit true))) (.t 61))),
 (oF 63 (iMov (.t 62))),
 ⟨some 64, false, some (63, false), iMov (.t 16)⟩,
 ⟨some 65, false, some (63, false), iCmp .neq (.t 64) (.c (.int .i64 (.lit 0)))⟩,
 (oF 66 (iPick (.t 63) (.c (.bool (.lit true))) (.t 65))),
 (oF 67 (iMov (.t 66))),
 ⟨some 68, false, some (67, false), iMov (.t 9)⟩,
 ⟨some 69, false, some (67, false), iNot (.t 68)⟩,
 (oF 70 (iPick (.t 67) (.c (.bool (.lit true))) (.t 69))),
 (oF 71 (iMov (.t 70))),
 ⟨some 72, false, some (71, false), iMov (.t 11)⟩,
 ⟨some 73, false, some (71, false), iCmp .lss (.t 72) (.c (.int .i64 (.lit 1)))⟩,
 (oF 74 (iPick (.t 71) (.c (.bool (.lit true))) (.t 73))),
 (oF 75 (iMov (.t 74))),
 ⟨some 76, false, some (75, false), iMov (.t 15)⟩,
 ⟨some 77, false, some (75, false), iLenS (.t 76)⟩,
 ⟨some 78, false, some (75, false), iCmp .neq (.t 77) (.c (.int .i64 (.lit 0)))⟩,
 (oF 79 (iPick (.t 75) (.c (.bool (.lit true))) (.t 78))),
 (oF 80 (iMov (.t 79))),
 ⟨some 81, false, some (80, false), iMov (.t 13)⟩,
 ⟨some 82, false, some (80, false), iLenS (.t 81)⟩,
 ⟨some 83, false, some (80, false), iMov (.t 8)⟩,
 ⟨some 84, false, some (80, false), iLenS (.t 83)⟩,
 ⟨some 85, false, some (80, false), iCmp .neq (.t 82) (.t 84)⟩,
 (oF 86 (iPick (.t 80) (.c (.bool (.lit true))) (.t 85))),
 (oF 87 (iMov (.t 86))),
 ⟨some 88, false, some (87, false), iMov (.t 8)⟩,
 ⟨some 89, false, some (87, false), iMov (.t 13)⟩,
 ⟨some 90, false, some (87, false), iCall (.c (.func (.func 14) [] [])) [(.t 88), (.t 89)]⟩,
 (oT 91 (iPick (.t 87) (.c (.bool (.lit true))) (.t 90)))])
 (cCond (.t 91) (cSeq (cOps [(oT 6 (iMov (.c (.bool (.lit false)))))])
 cRet) cSkip))
 (cSeq (cSeq (cOps [(oT 17 (iMov (.c (.int .i64 (.lit 0)))))])
 (cBlock 0 (cLoop (cSeq (cSeq (cOps [(oF 92 (iMov (.t 17))),
 (oF 93 (iMov (.t 8))),
 (oF 94 (iLenS (.t 93))),
 (oT 95 (iCmp .lss (.t 92) (.t 94)))])
 (cCond (.t 95) cSkip (cExit 0)))
 (cSeq (cBlock 1 (cSeq (dOps 0 [⟨(oF 99 (iLoadN 6 (.t 7))), [7], false, 0, 0, none, []⟩,
 ⟨(oF 100 (iMov (.t 8))), [8], false, 0, 0, none, []⟩,
 ⟨(oF 101 (iMov (.t 17))), [17], false, 0, 0, none, []⟩,
 ⟨(oF 102 (iIaddr 1 (.t 100) (.t 101))), [100, 101], false, 0, 0, none, []⟩,
 ⟨(oF 103 (iLoad (.t 102))), [102], false, 0, 0, none, []⟩,
 ⟨(oF 104 (iCall (.c (.func (.func 15) [] [])) [(.t 99), (.t 103)])), [99, 103], true, 0, 0, none, []⟩,
 ⟨(oF 98 (iMov (.t 104))), [104], false, 1, 1, none, []⟩,
 ⟨(oF 105 (iExtract 0 (.t 98))), [98], false, 1, 1, none, []⟩,
 ⟨(oF 106 (iExtract 1 (.t 98))), [98], false, 1, 1, none, []⟩,
 ⟨(oT 18 (iMov (.t 105))), [105], false, 1, 1, none, []⟩,
 ⟨(oT 19 (iMov (.t 106))), [106], false, 1, 1, none, []⟩])
 (cSeq (cOps [(oF 107 (iMov (.t 19))),
 (oF 108 (iCmp .neq (.t 107) (.c (.int .i64 (.lit 0))))),
 (oF 109 (iMov (.t 108))),
 ⟨some 110, false, some (109, false), iMov (.t 18)⟩,
 ⟨some 111, false, some (109, false), iMov (.t 17)⟩,
 ⟨some 112, false, some (109, false), iCall (.c (.func (.func 16) [] [])) [(.t 110), (.t 111)]⟩,
 ⟨some 113, false, some (109, false), iCmp .lss (.t 112) (.c (.int .i64 (.lit 0)))⟩,
 (oF 114 (iPick (.t 109) (.c (.bool (.lit true))) (.t 113))),
 (oF 115 (iMov (.t 114))),
 ⟨some 116, false, some (115, false), iMov (.t 18)⟩,
 ⟨some 117, false, some (115, false), iMov (.t 8)⟩,
 ⟨some 118, false, some (115, false), iLenS (.t 117)⟩,
 ⟨some 119, false, some (115, false), iCall (.c (.func (.func 17) [] [])) [(.t 116), (.t 118)]⟩,
 ⟨some 120, false, some (115, false), iNot (.t 119)⟩,
 (oF 121 (iPick (.t 115) (.c (.bool (.lit true))) (.t 120))),
 (oF 122 (iMov (.t 121))),
 ⟨some 123, false, some (122, false), iMov (.t 11)⟩,
 ⟨some 124, false, some (122, false), iCmp .eql (.t 123) (.c (.int .i64 (.lit 1)))⟩,
 ⟨some 125, false, some (122, false), iMov (.t 124)⟩,
 ⟨some 126, false, some (125, true), iMov (.t 18)⟩,
 ⟨some 127, false, some (125, true), iLenS (.t 126)⟩,
 ⟨some 128, false, some (125, true), iCmp .neq (.t 127) (.c (.int .i64 (.lit 1)))⟩,
 ⟨some 129, false, some (122, false), iPick (.t 125) (.t 128) (.c (.bool (.lit false)))⟩,
 (oT 130 (iPick (.t 122) (.c (.bool (.lit true))) (.t 129)))])
 (cCond (.t 130) (cSeq (cOps [(oT 6 (iMov (.c (.bool (.lit false)))))])
 cRet) cSkip))))
 (cOps [(oF 96 (iMov (.t 17))),
 (oF 97 (iArith .add (.t 96) (.c (.int .i64 (.lit 1))))),
 (oT 17 (iMov (.t 97)))]))))))
 (cSeq (cOps [(oF 131 (iIaddrA 1 2 (.t 5) (.c (.int .i64 (.lit 0))))),
 (oF 132 (iLoad (.t 131))),
 (oF 133 (iMov (.t 8))),
 (oF 134 (iLenS (.t 133))),
 (oF 135 (iCall (.c (.func (.func 18) [] [])) [(.t 132), (.t 134)])),
 (oT 20 (iMov (.t 135)))])
 (cSeq (cOps [(oF 136 (iMov (.t 20))),
 (oF 137 (iArith .add (.t 136) (.c (.int .i64 (.lit 1))))),
 (oF 138 (iIaddrA 1 2 (.t 5) (.c (.int .i64 (.lit 1))))),
 (oF 139 (iLoad (.t 138))),
 (oF 140 (iMov (.t 8))),
 (oF 141 (iLenS (.t 140))),
 (oF 142 (iMov (.t 20))),
 (oF 143 (iArith .sub (.t 141) (.t 142))),
 (oF 144 (iCall (.c (.func (.func 18) [] [])) [(.t 139), (.t 143)])),
 (oF 145 (iArith .add (.t 137) (.t 144))),
 (oT 21 (iMov (.t 145)))])
 (cSeq (dOps 0 [⟨(oF 147 (iLoadN 6 (.t 7))), [7], false, 0, 0, none, []⟩,
 ⟨(oF 148 (iMov (.t 8))), [8], false, 0, 0, none, []⟩,
 ⟨(oF 149 (iMov (.t 20))), [20], false, 0, 0, none, []⟩,
 ⟨(oF 150 (iMov (.t 21))), [21], false, 0, 0, none, []⟩,
 ⟨(oF 151 (iSlice 1 (.t 148) (some (.t 149)) (some (.t 150)) none)), [148, 149, 150], false, 0, 0, none, []⟩,
 ⟨(oF 152 (iCall (.c (.func (.func 10) [] [])) [(.t 147), (.t 151)])), [147, 151], true, 0, 0, none, []⟩,
 ⟨(oF 146 (iMov (.t 152))), [152], false, 1, 1, none, []⟩,
 ⟨(oF 153 (iExtract 0 (.t 146))), [146], false, 1, 1, none, []⟩,
 ⟨(oF 154 (iExtract 1 (.t 146))), [146], false, 1, 1, none, []⟩,
 ⟨(oT 9 (iMov (.t 153))), [153], false, 1, 1, none, []⟩,
 ⟨(oT 10 (iMov (.t 154))), [154], false, 1, 1, none, []⟩])
 (cSeq (cOps [(oF 155 (iMov (.t 10))),
 (oF 156 (iCmp .eql (.t 155) (.c (.int .i64 (.lit 0))))),
 (oF 157 (iMov (.t 156))),
 ⟨some 158, false, some (157, true), iMov (.t 9)⟩,
 (oF 159 (iPick (.t 157) (.t 158) (.c (.bool (.lit false))))),
 (oF 160 (iMov (.t 159))),
 ⟨some 161, false, some (160, true), iCall (.c (.func (.func 8) [] [])) []⟩,
 (oF 162 (iPick (.t 160) (.t 161) (.c (.bool (.lit false))))),
 (oT 6 (iMov (.t 162)))])
 cRet))))))))))))), [.t 6]⟩
def Tryd.kp7 : List Nat := [0, 1, 2, 3, 4, 5, 37]
def Tryd.cf7 : CF := ⟨1, (cSeq (cOps [(oT 1 (iBox 26 (.t 0))),
 (oT 2 (iMov (.c (.bool (.lit false)))))])
 (cSeq (cOps [(oF 6 (iLoadN 6 (.t 1))),
 (oF 7 (iCall (.c (.func (.func 24) [] [])) [(.t 6)])),
 (oF 8 (iCmp .eql (.t 7) (.c (.int .i64 (.lit 0))))),
 (oF 9 (iMov (.t 8))),
 ⟨some 10, false, some (9, true), iFaddr 0 (.t 1)⟩,
 ⟨some 11, false, some (9, true), iLoad (.t 10)⟩,
 ⟨some 12, false, some (9, true), iLenS (.t 11)⟩,
 ⟨some 13, false, some (9, true), iCall (.c (.func (.func 25) [] [])) [(.t 12), (.c (.int .i64 (.lit 1))), (.c (.int .i64 (.lit 6)))]⟩,
 (oF 14 (iPick (.t 9) (.t 13) (.c (.bool (.lit false))))),
 (oF 15 (iMov (.t 14))),
 ⟨some 16, false, some (15, true), iFaddr 1 (.t 1)⟩,
 ⟨some 17, false, some (15, true), iLoadN 2 (.t 16)⟩,
 ⟨some 18, false, some (15, true), iCall (.c (.func (.func 26) [] [])) [(.t 17), (.c (.int .i64 (.lit 1))), (.c (.int .i64 (.lit 20)))]⟩,
 (oF 19 (iPick (.t 15) (.t 18) (.c (.bool (.lit false))))),
 (oF 20 (iMov (.t 19))),
 ⟨some 21, false, some (20, true), iFaddr 3 (.t 1)⟩,
 ⟨some 22, false, some (20, true), iLoadN 2 (.t 21)⟩,
 ⟨some 23, false, some (20, true), iCall (.c (.func (.func 26) [] [])) [(.t 22), (.c (.int .i64 (.lit 0))), (.c (.int .i64 (.lit 50)))]⟩,
 (oF 24 (iPick (.t 20) (.t 23) (.c (.bool (.lit false))))),
 (oF 25 (iMov (.t 24))),
 ⟨some 26, false, some (25, true), iFaddr 5 (.t 1)⟩,
 ⟨some 27, false, some (25, true), iLoad (.t 26)⟩,
 ⟨some 28, false, some (25, true), iCall (.c (.func (.func 25) [] [])) [(.t 27), (.c (.int .i64 (.lit 1))), (.c (.int .i64 (.lit 6000)))]⟩,
 (oF 29 (iPick (.t 25) (.t 28) (.c (.bool (.lit false))))),
 (oT 3 (iMov (.t 29)))])
 (cSeq (cSeq (cOps [(oT 4 (iMov (.c (.int .i64 (.lit 0)))))])
 (cBlock 0 (cLoop (cSeq (cSeq (cOps [(oF 30 (iMov (.t 3))),
 (oF 31 (iMov (.t 30))),
 ⟨some 32, false, some (31, true), iMov (.t 4)⟩,
 ⟨some 33, false, some (31, true), iFaddr 0 (.t 1)⟩,
 ⟨some 34, false, some (31, true), iLoad (.t 33)⟩,
 ⟨some 35, false, some (31, true), iLenS (.t 34)⟩,
 ⟨some 36, false, some (31, true), iCmp .lss (.t 32) (.t 35)⟩,
 (oT 37 (iPick (.t 31) (.t 36) (.c (.bool (.lit false)))))])
 (cCond (.t 37) cSkip (cExit 0)))
 (cSeq (cBlock 1 (cSeq (cOps [(oF 40 (iFaddr 0 (.t 1))),
 (oF 41 (iLoad (.t 40))),
 (oF 42 (iMov (.t 4))),
 (oF 43 (iIaddr 6 (.t 41) (.t 42))),
 (oF 44 (iLoadN 6 (.t 43))),
 (oT 5 (iAlloc 53 [(.int .i64 (.lit 0)), (.int .i64 (.lit 0)), (.int .i64 (.lit 0)), (.int .i64 (.lit 0)), (.int .i64 (.lit 0)), (.int .i64 (.lit 0))])),
 (oN (iStore 6 (.t 5) (.t 44)))])
 (cOps [(oF 45 (iFaddr 0 (.t 5))),
 (oF 46 (iLoadN 2 (.t 45))),
 (oF 47 (iCall (.c (.func (.func 26) [] [])) [(.t 46), (.c (.int .i64 (.lit 0))), (.c (.int .i64 (.lit 99)))])),
 (oF 48 (iMov (.t 47))),
 ⟨some 49, false, some (48, true), iFaddr 2 (.t 5)⟩,
 ⟨some 50, false, some (48, true), iLoadN 2 (.t 49)⟩,
 ⟨some 51, false, some (48, true), iCall (.c (.func (.func 26) [] [])) [(.t 50), (.c (.int .i64 (.lit 0))), (.c (.int .i64 (.lit 99)))]⟩,
 (oF 52 (iPick (.t 48) (.t 51) (.c (.bool (.lit false))))),
 (oF 53 (iMov (.t 52))),
 ⟨some 54, false, some (53, true), iFaddr 0 (.t 5)⟩,
 ⟨some 55, false, some (53, true), iFaddr 0 (.t 54)⟩,
 ⟨some 56, false, some (53, true), iLoad (.t 55)⟩,
 ⟨some 57, false, some (53, true), iFaddr 2 (.t 5)⟩,
 ⟨some 58, false, some (53, true), iFaddr 1 (.t 57)⟩,
 ⟨some 59, false, some (53, true), iLoad (.t 58)⟩,
 ⟨some 60, false, some (53, true), iCmp .leq (.t 56) (.t 59)⟩,
 (oF 61 (iPick (.t 53) (.t 60) (.c (.bool (.lit false))))),
 (oF 62 (iMov (.t 61))),
 ⟨some 63, false, some (62, true), iFaddr 4 (.t 5)⟩,
 ⟨some 64, false, some (62, true), iLoadN 2 (.t 63)⟩,
 ⟨some 65, false, some (62, true), iCall (.c (.func (.func 26) [] [])) [(.t 64), (.c (.int .i64 (.lit 1))), (.c (.int .i64 (.lit 1200)))]⟩,
 (oF 66 (iPick (.t 62) (.t 65) (.c (.bool (.lit false))))),
 (oT 3 (iMov (.t 66)))])))
 (cOps [(oF 38 (iMov (.t 4))),
 (oF 39 (iArith .add (.t 38) (.c (.int .i64 (.lit 1))))),
 (oT 4 (iMov (.t 39)))]))))))
 (cSeq (cOps [(oF 67 (iMov (.t 3))),
 (oT 2 (iMov (.t 67)))])
 cRet)))), [.t 2]⟩
def Tryd.kp8 : List Nat := [0, 1, 2, 3, 4, 5, 6, 7, 8, 9, 10, 11, 12, 13, 14, 15, 16, 17, 87]
def Tryd.cf8 : CF := ⟨0, (cSeq (cOps [(oT 0 (iMov (.c (.bool (.lit false)))))])
 (cSeq (cOps [(oF 19 (iCall (.c (.func (.func 27) [] [])) [])),
 (oF 20 (iBslice 3 [(.int .i64 (.lit 0))] 3 [(0, 1, (.c (.int .i64 (.lit 0)))), (1, 1, (.c (.int .i64 (.lit 3)))), (2, 1, (.c (.int .i64 (.lit 2))))])),
 (oF 21 (iCall (.c (.func (.func 10) [] [])) [(.t 19), (.t 20)])),
 (oF 18 (iMov (.t 21))),
 (oF 22 (iExtract 0 (.t 18))),
 (oF 23 (iExtract 1 (.t 18))),
 (oT 1 (iMov (.t 22))),
 (oT 2 (iMov (.t 23)))])
 (cSeq (cOps [(oF 25 (iCall (.c (.func (.func 27) [] [])) [])),
 (oF 26 (iCall (.c (.func (.func 11) [] [])) [(.t 25)])),
 (oF 24 (iMov (.t 26))),
 (oF 27 (iExtract 0 (.t 24))),
 (oF 28 (iExtract 1 (.t 24))),
 (oT 3 (iMov (.t 27))),
 (oT 4 (iMov (.t 28)))])
 (cSeq (cOps [(oF 30 (iCall (.c (.func (.func 27) [] [])) [])),
 (oF 31 (iCall (.c (.func (.func 12) [] [])) [(.t 30)])),
 (oF 29 (iMov (.t 31))),
 (oF 32 (iExtract 0 (.t 29))),
 (oF 33 (iExtract 1 (.t 29))),
 (oT 5 (iMov (.t 32))),
 (oT 6 (iMov (.t 33)))])
 (cSeq (cOps [(oF 35 (iCall (.c (.func (.func 27) [] [])) [])),
 (oF 36 (iCall (.c (.func (.func 15) [] [])) [(.t 35), (.c (.int .i64 (.lit 3)))])),
 (oF 34 (iMov (.t 36))),
 (oF 37 (iExtract 0 (.t 34))),
 (oF 38 (iExtract 1 (.t 34))),
 (oT 7 (iMov (.t 37))),
 (oT 8 (iMov (.t 38)))])
 (cSeq (cOps [(oF 40 (iCall (.c (.func (.func 28) [] [])) [])),
 (oF 41 (iCall (.c (.func (.func 13) [] [])) [(.t 40)])),
 (oF 39 (iMov (.t 41))),
 (oF 42 (iExtract 0 (.t 39))),
 (oF 43 (iExtract 1 (.t 39))),
 (oT 9 (iMov (.t 42))),
 (oT 10 (iMov (.t 43)))])
 (cSeq (cSeq (cOps [(oF 44 (iMov (.t 2))),
 (oF 45 (iCmp .neq (.t 44) (.c (.int .i64 (.lit 0))))),
 (oF 46 (iMov (.t 45))),
 ⟨some 47, false, some (46, false), iMov (.t 4)⟩,
 ⟨some 48, false, some (46, false), iCmp .neq (.t 47) (.c (.int .i64 (.lit 0)))⟩,
 (oF 49 (iPick (.t 46) (.c (.bool (.lit true))) (.t 48))),
 (oF 50 (iMov (.t 49))),
 ⟨some 51, false, some (50, false), iMov (.t 6)⟩,
 ⟨some 52, false, some (50, false), iCmp .neq (.t 51) (.c (.int .i64 (.lit 0)))⟩,
 (oF 53 (iPick (.t 50) (.c (.bool (.lit true))) (.t 52))),
 (oF 54 (iMov (.t 53))),
 ⟨some 55, false, some (54, false), iMov (.t 8)⟩,
 ⟨some 56, false, some (54, false), iCmp .neq (.t 55) (.c (.int .i64 (.lit 0)))⟩,
 (oF 57 (iPick (.t 54) (.c (.bool (.lit true))) (.t 56))),
 (oF 58 (iMov (.t 57))),
 ⟨some 59, false, some (58, false), iMov (.t 10)⟩,
 ⟨some 60, false, some (58, false), iCmp .neq (.t 59) (.c (.int .i64 (.lit 0)))⟩,
 (oF 61 (iPick (.t 58) (.c (.bool (.lit true))) (.t 60))),
 (oF 62 (iMov (.t 61))),
 ⟨some 63, false, some (62, false), iMov (.t 1)⟩,
 ⟨some 64, false, some (62, false), iNot (.t 63)⟩,
 (oF 65 (iPick (.t 62) (.c (.bool (.lit true))) (.t 64))),
 (oF 66 (iMov (.t 65))),
 ⟨some 67, false, some (66, false), iMov (.t 3)⟩,
 ⟨some 68, false, some (66, false), iCmp .neq (.t 67) (.c (.int .i64 (.lit 2)))⟩,
 (oF 69 (iPick (.t 66) (.c (.bool (.lit true))) (.t 68))),
 (oF 70 (iMov (.t 69))),
 ⟨some 71, false, some (70, false), iMov (.t 5)⟩,
 ⟨some 72, false, some (70, false), iBslice 3 [(.int .i64 (.lit 0))] 4 [(0, 1, (.c (.int .i64 (.lit 1)))), (1, 1, (.c (.int .i64 (.lit 0)))), (2, 1, (.c (.int .i64 (.lit 2)))), (3, 1, (.c (.int .i64 (.lit 3))))]⟩,
 ⟨some 73, false, some (70, false), iCall (.c (.func (.func 29) [] [])) [(.t 71), (.t 72)]⟩,
 ⟨some 74, false, some (70, false), iNot (.t 73)⟩,
 (oF 75 (iPick (.t 70) (.c (.bool (.lit true))) (.t 74))),
 (oF 76 (iMov (.t 75))),
 ⟨some 77, false, some (76, false), iMov (.t 7)⟩,
 ⟨some 78, false, some (76, false), iBslice 3 [(.int .i64 (.lit 0))] 2 [(0, 1, (.c (.int .i64 (.lit 2)))), (1, 1, (.c (.int .i64 (.lit 3))))]⟩,
 ⟨some 79, false, some (76, false), iCall (.c (.func (.func 29) [] [])) [(.t 77), (.t 78)]⟩,
 ⟨some 80, false, some (76, false), iNot (.t 79)⟩,
 (oF 81 (iPick (.t 76) (.c (.bool (.lit true))) (.t 80))),
 (oF 82 (iMov (.t 81))),
 ⟨some 83, false, some (82, false), iMov (.t 9)⟩,
 ⟨some 84, false, some (82, false), iBslice 3 [(.int .i64 (.lit 0))] 1 [(0, 1, (.c (.int .i64 (.lit 1))))]⟩,
 ⟨some 85, false, some (82, false), iCall (.c (.func (.func 29) [] [])) [(.t 83), (.t 84)]⟩,
 ⟨some 86, false, some (82, false), iNot (.t 85)⟩,
 (oT 87 (iPick (.t 82) (.c (.bool (.lit true))) (.t 86)))])
 (cCond (.t 87) (cSeq (cOps [(oT 0 (iMov (.c (.bool (.lit false)))))])
 cRet) cSkip))
 (cSeq (cOps [(oF 89 (iCall (.c (.func (.func 27) [] [])) [])),
 (oF 90 (iCall (.c (.func (.func 30) [] [])) [(.t 89), (.c (.int .i64 (.lit 1))), (.c (.int .i64 (.lit 10)))])),
 (oF 88 (iMov (.t 90))),
 (oF 91 (iExtract 0 (.t 88))),
 (oF 92 (iExtract 1 (.t 88))),
 (oT 11 (iAlloc 24 [(.int .i64 (.lit 0)), (.int .i64 (.lit 0))])),
 (oN (iStore 2 (.t 11) (.t 91))),
 (oT 2 (iMov (.t 92)))])
 (cSeq (cOps [(oF 94 (iCall (.c (.func (.func 27) [] [])) [])),
 (oF 95 (iCall (.c (.func (.func 31) [] [])) [(.t 94), (.c (.int .i64 (.lit 2))), (.c (.int .i64 (.lit 700)))])),
 (oF 93 (iMov (.t 95))),
 (oF 96 (iExtract 0 (.t 93))),
 (oF 97 (iExtract 1 (.t 93))),
 (oF 98 (iExtract 2 (.t 93))),
 (oT 12 (iMov (.t 96))),
 (oT 13 (iMov (.t 97))),
 (oT 4 (iMov (.t 98)))])
 (cSeq (cOps [(oF 100 (iCall (.c (.func (.func 27) [] [])) [])),
 (oF 101 (iCall (.c (.func (.func 32) [] [])) [(.t 100), (.c (.int .i64 (.lit 3))), (.c (.int .i64 (.lit 690)))])),
 (oF 99 (iMov (.t 101))),
 (oF 102 (iExtract 0 (.t 99))),
 (oF 103 (iExtract 1 (.t 99))),
 (oT 14 (iAlloc 24 [(.int .i64 (.lit 0)), (.int .i64 (.lit 0))])),
 (oN (iStore 2 (.t 14) (.t 102))),
 (oT 6 (iMov (.t 103)))])
 (cSeq (cOps [(oF 105 (iCall (.c (.func (.func 27) [] [])) [])),
 (oF 106 (iBslice 3 [(.int .i64 (.lit 0))] 4 [(0, 1, (.c (.int .i64 (.lit 0)))), (1, 1, (.c (.int .i64 (.lit 1)))), (2, 1, (.c (.int .i64 (.lit 2)))), (3, 1, (.c (.int .i64 (.lit 3))))])),
 (oF 107 (iCall (.c (.func (.func 33) [] [])) [(.t 105), (.t 106), (.c (.int .i64 (.lit 0)))])),
 (oF 104 (iMov (.t 107))),
 (oF 108 (iExtract 0 (.t 104))),
 (oF 109 (iExtract 1 (.t 104))),
 (oT 15 (iAlloc 24 [(.int .i64 (.lit 0)), (.int .i64 (.lit 0))])),
 (oN (iStore 2 (.t 15) (.t 108))),
 (oT 8 (iMov (.t 109)))])
 (cSeq (cOps [(oF 111 (iCall (.c (.func (.func 27) [] [])) [])),
 (oF 112 (iBslice 3 [(.int .i64 (.lit 0))] 4 [(0, 1, (.c (.int .i64 (.lit 1)))), (1, 1, (.c (.int .i64 (.lit 0)))), (2, 1, (.c (.int .i64 (.lit 2)))), (3, 1, (.c (.int .i64 (.lit 3))))])),
 (oF 113 (iCall (.c (.func (.func 34) [] [])) [(.t 111), (.t 112), (.c (.int .i64 (.lit 0)))])),
 (oF 110 (iMov (.t 113))),
 (oF 114 (iExtract 0 (.t 110))),
 (oF 115 (iExtract 1 (.t 110))),
 (oT 5 (iMov (.t 114))),
 (oT 10 (iMov (.t 115)))])
 (cSeq (cOps [(oF 117 (iCall (.c (.func (.func 27) [] [])) [])),
 (oF 118 (iBslice 3 [(.int .i64 (.lit 0))] 4 [(0, 1, (.c (.int .i64 (.lit 1)))), (1, 1, (.c (.int .i64 (.lit 0)))), (2, 1, (.c (.int .i64 (.lit 2)))), (3, 1, (.c (.int .i64 (.lit 3))))])),
 (oF 119 (iCall (.c (.func (.func 35) [] [])) [(.t 117), (.t 118), (.c (.int .i64 (.lit 0)))])),
 (oF 116 (iMov (.t 119))),
 (oF 120 (iExtract 0 (.t 116))),
 (oF 121 (iExtract 1 (.t 116))),
 (oT 16 (iMov (.t 120))),
 (oT 17 (iMov (.t 121)))])
 (cSeq (dOps 0 [⟨(oF 122 (iMov (.t 2))), [2], false, 0, 0, none, []⟩,
 ⟨(oF 123 (iCmp .eql (.t 122) (.c (.int .i64 (.lit 0))))), [122], false, 0, 0, none, []⟩,
 ⟨(oF 124 (iMov (.t 123))), [123], false, 0, 0, none, []⟩,
 ⟨⟨some 125, false, some (124, true), iMov (.t 4)⟩, [124, 4], false, 0, 0, none, []⟩,
 ⟨⟨some 126, false, some (124, true), iCmp .eql (.t 125) (.c (.int .i64 (.lit 0)))⟩, [124, 125], false, 0, 0, none, []⟩,
 ⟨(oF 127 (iPick (.t 124) (.t 126) (.c (.bool (.lit false))))), [124, 126], false, 0, 0, none, []⟩,
 ⟨(oF 128 (iMov (.t 127))), [127], false, 0, 0, none, []⟩,
 ⟨⟨some 129, false, some (128, true), iMov (.t 6)⟩, [128, 6], false, 0, 0, none, []⟩,
 ⟨⟨some 130, false, some (128, true), iCmp .eql (.t 129) (.c (.int .i64 (.lit 0)))⟩, [128, 129], false, 0, 0, none, []⟩,
 ⟨(oF 131 (iPick (.t 128) (.t 130) (.c (.bool (.lit false))))), [128, 130], false, 0, 0, none, []⟩,
 ⟨(oF 132 (iMov (.t 131))), [131], false, 0, 0, none, []⟩,
 ⟨⟨some 133, false, some (132, true), iMov (.t 8)⟩, [132, 8], false, 0, 0, none, []⟩,
 ⟨⟨some 134, false, some (132, true), iCmp .eql (.t 133) (.c (.int .i64 (.lit 0)))⟩, [132, 133], false, 0, 0, none, []⟩,
 ⟨(oF 135 (iPick (.t 132) (.t 134) (.c (.bool (.lit false))))), [132, 134], false, 0, 0, none, []⟩,
 ⟨(oF 136 (iMov (.t 135))), [135], false, 0, 0, none, []⟩,
 ⟨⟨some 137, false, some (136, true), iMov (.t 10)⟩, [136, 10], false, 0, 0, none, []⟩,
 ⟨⟨some 138, false, some (136, true), iCmp .eql (.t 137) (.c (.int .i64 (.lit 0)))⟩, [136, 137], false, 0, 0, none, []⟩,
 ⟨(oF 139 (iPick (.t 136) (.t 138) (.c (.bool (.lit false))))), [136, 138], false, 0, 0, none, []⟩,
 ⟨(oF 140 (iMov (.t 139))), [139], false, 0, 0, none, []⟩,
 ⟨⟨some 141, false, some (140, true), iMov (.t 17)⟩, [140, 17], false, 0, 0, none, []⟩,
 ⟨⟨some 142, false, some (140, true), iCmp .eql (.t 141) (.c (.int .i64 (.lit 0)))⟩, [140, 141], false, 0, 0, none, []⟩,
 ⟨(oF 143 (iPick (.t 140) (.t 142) (.c (.bool (.lit false))))), [140, 142], false, 0, 0, none, []⟩,
 ⟨(oF 144 (iMov (.t 143))), [143], false, 0, 0, none, []⟩,
 ⟨⟨some 145, false, some (144, true), iLoadN 2 (.t 11)⟩, [144, 11], false, 0, 1, none, []⟩,
 ⟨⟨some 146, false, some (144, true), iCall (.c (.func (.func 23) [] [])) [(.c (.int .i64 (.lit 920))), (.c (.int .i64 (.lit 990)))]⟩, [144], true, 0, 0, none, []⟩,
 ⟨⟨some 147, false, some (144, true), iEq false true 2 [(0, .int), (1, .int)] (.t 145) (.t 146)⟩, [144, 145, 146], false, 1, 1, none, []⟩,
 ⟨(oF 148 (iPick (.t 144) (.t 147) (.c (.bool (.lit false))))), [144, 147], false, 1, 1, none, []⟩,
 ⟨(oF 149 (iMov (.t 148))), [148], false, 1, 1, none, []⟩,
 ⟨⟨some 150, false, some (149, true), iMov (.t 12)⟩, [149, 12], false, 1, 1, none, []⟩,
 ⟨⟨some 151, false, some (149, true), iCmp .eql (.t 150) (.c (.int .i64 (.lit 33)))⟩, [149, 150], false, 1, 1, none, []⟩,
 ⟨(oF 152 (iPick (.t 149) (.t 151) (.c (.bool (.lit false))))), [149, 151], false, 1, 1, none, []⟩,
 ⟨(oF 153 (iMov (.t 152))), [152], false, 1, 1, none, []⟩,
 ⟨⟨some 154, false, some (153, true), iMov (.t 13)⟩, [153, 13], false, 1, 1, none, []⟩,
 ⟨⟨some 155, false, some (153, true), iCmp .eql (.t 154) (.c (.int .i64 (.lit 120)))⟩, [153, 154], false, 1, 1, none, []⟩,
 ⟨(oF 156 (iPick (.t 153) (.t 155) (.c (.bool (.lit false))))), [153, 155], false, 1, 1, none, []⟩,
 ⟨(oF 157 (iMov (.t 156))), [156], false, 1, 1, none, []⟩,
 ⟨⟨some 158, false, some (157, true), iLoadN 2 (.t 14)⟩, [157, 14], false, 1, 2, none, []⟩,
 ⟨⟨some 159, false, some (157, true), iCall (.c (.func (.func 23) [] [])) [(.c (.int .i64 (.lit 4))), (.c (.int .i64 (.lit 10)))]⟩, [157], true, 1, 0, none, []⟩,
 ⟨⟨some 160, false, some (157, true), iEq false true 2 [(0, .int), (1, .int)] (.t 158) (.t 159)⟩, [157, 158, 159], false, 2, 2, none, []⟩,
 ⟨(oF 161 (iPick (.t 157) (.t 160) (.c (.bool (.lit false))))), [157, 160], false, 2, 2, none, []⟩,
 ⟨(oF 162 (iMov (.t 161))), [161], false, 2, 2, none, []⟩,
 ⟨⟨some 163, false, some (162, true), iLoadN 2 (.t 15)⟩, [162, 15], false, 2, 3, none, []⟩,
 ⟨⟨some 164, false, some (162, true), iCall (.c (.func (.func 23) [] [])) [(.c (.int .i64 (.lit 20100))), (.c (.int .i64 (.lit 27360)))]⟩, [162], true, 2, 0, none, []⟩,
 ⟨⟨some 165, false, some (162, true), iEq false true 2 [(0, .int), (1, .int)] (.t 163) (.t 164)⟩, [162, 163, 164], false, 3, 3, none, []⟩,
 ⟨(oF 166 (iPick (.t 162) (.t 165) (.c (.bool (.lit false))))), [162, 165], false, 3, 3, none, []⟩,
 ⟨(oF 167 (iMov (.t 166))), [166], false, 3, 3, none, []⟩,
 ⟨⟨some 168, false, some (167, true), iMov (.t 5)⟩, [167, 5], false, 3, 4, none, []⟩,
 ⟨⟨some 169, false, some (167, true), iBslice 3 [(.int .i64 (.lit 0))] 2 [(0, 1, (.c (.int .i64 (.lit 2)))), (1, 1, (.c (.int .i64 (.lit 2))))]⟩, [167], true, 3, 0, none, []⟩,
 ⟨⟨some 170, false, some (167, true), iCall (.c (.func (.func 29) [] [])) [(.t 168), (.t 169)]⟩, [167, 168, 169], true, 4, 0, none, []⟩,
 ⟨(oF 171 (iPick (.t 167) (.t 170) (.c (.bool (.lit false))))), [167, 170], false, 5, 5, none, []⟩,
 ⟨(oF 172 (iMov (.t 171))), [171], false, 5, 5, none, []⟩,
 ⟨⟨some 173, false, some (172, true), iMov (.t 16)⟩, [172, 16], false, 5, 7, none, []⟩,
 ⟨⟨some 174, false, some (172, true), iCall (.c (.func (.func 23) [] [])) [(.c (.int .i64 (.lit 11100))), (.c (.int .i64 (.lit 15200)))]⟩, [172], true, 5, 0, none, []⟩,
 ⟨⟨some 175, false, some (172, true), iBslice 24 [(.int .i64 (.lit 0)), (.int .i64 (.lit 0))] 1 [(0, 2, (.t 174))]⟩, [172, 174], true, 6, 0, none, []⟩,
 ⟨⟨some 176, false, some (172, true), iCall (.c (.func (.func 36) [] [])) [(.t 173), (.t 175)]⟩, [172, 173, 175], true, 7, 0, none, []⟩,
 ⟨(oF 177 (iPick (.t 172) (.t 176) (.c (.bool (.lit false))))), [172, 176], false, 8, 8, none, []⟩,
 ⟨(oT 0 (iMov (.t 177))), [177], false, 8, 8, none, []⟩])
 cRet)))))))))))))), [.t 0]⟩
def Tryd.kp9 : List Nat := [0, 1, 2, 4, 5, 6, 7, 8, 9, 10, 11, 12, 13, 31, 47]
def Tryd.cf9 : CF := ⟨2, (cSeq (cOps [(oT 2 (iBox 26 (.t 0))),
 (oT 4 (iAlloc 26 [.nilslice, (.int .i64 (.lit 0)), (.int .i64 (.lit 0)), (.int .i64 (.lit 0)), (.int .i64 (.lit 0)), (.int .i64 (.lit 0))])),
 (oT 5 (iMov (.c .nilslice)))])
 (cSeq (cOps [(oF 14 (iFaddr 0 (.t 2))),
 (oF 15 (iLoad (.t 14))),
 (oF 16 (iLenS (.t 15))),
 (oF 17 (iMov (.t 1))),
 (oF 18 (iCall (.c (.func (.func 19) [] [])) [(.t 16), (.t 17)])),
 (oT 6 (iMov (.t 18)))])
 (cSeq (cOps [(oF 19 (iLoadN 6 (.t 2))),
 (oT 7 (iAlloc 26 [.nilslice, (.int .i64 (.lit 0)), (.int .i64 (.lit 0)), (.int .i64 (.lit 0)), (.int .i64 (.lit 0)), (.int .i64 (.lit 0))])),
 (oN (iStore 6 (.t 7) (.t 19)))])
 (cSeq (cOps [(oF 20 (iBslice 53 [(.int .i64 (.lit 0)), (.int .i64 (.lit 0)), (.int .i64 (.lit 0)), (.int .i64 (.lit 0)), (.int .i64 (.lit 0)), (.int .i64 (.lit 0))] 0 [])),
 (oF 21 (iFaddr 0 (.t 2))),
 (oF 22 (iLoad (.t 21))),
 (oF 23 (iAppend 53 6 48 (.t 20) (.t 22))),
 (oF 24 (iFaddr 0 (.t 7))),
 (oN (iStore 1 (.t 24) (.t 23)))])
 (cSeq (cOps [(oF 25 (iMov (.t 1))),
 (oF 26 (iCall (.c (.func (.func 37) [] [])) [(.t 25), (.c (.int .i64 (.lit 1)))])),
 (oF 27 (iCall (.c (.func (.func 18) [] [])) [(.t 26), (.c (.int .i64 (.lit 10)))])),
 (oT 8 (iMov (.t 27)))])
 (cSeq (cSeq (cOps [(oT 9 (iMov (.c (.int .i64 (.lit 0)))))])
 (cBlock 0 (cLoop (cSeq (cSeq (cOps [(oF 28 (iMov (.t 9))),
 (oF 29 (iMov (.t 6))),
 (oF 30 (iLenS (.t 29))),
 (oT 31 (iCmp .lss (.t 28) (.t 30)))])
 (cCond (.t 31) cSkip (cExit 0)))
 (cSeq (cBlock 1 (cSeq (cOps [(oF 34 (iMov (.t 6))),
 (oF 35 (iMov (.t 9))),
 (oF 36 (iIaddr 1 (.t 34) (.t 35))),
 (oF 37 (iLoad (.t 36))),
 (oT 10 (iMov (.t 37)))])
 (cSeq (cOps [(oF 38 (iMov (.t 8))),
 (oF 39 (iMov (.t 1))),
 (oF 40 (iMov (.t 9))),
 (oF 41 (iArith .mul (.c (.int .i64 (.lit 3))) (.t 40))),
 (oF 42 (iCall (.c (.func (.func 37) [] [])) [(.t 39), (.t 41)])),
 (oF 43 (iCall (.c (.func (.func 18) [] [])) [(.t 42), (.c (.int .i64 (.lit 2)))])),
 (oF 44 (iArith .add (.t 38) (.t 43))),
 (oF 45 (iMin [(.c (.int .i64 (.lit 99))), (.t 44)])),
 (oT 11 (iMov (.t 45)))])
 (cSeq (cSeq (cOps [(oF 46 (iMov (.t 9))),
 (oT 47 (iCmp .eql (.t 46) (.c (.int .i64 (.lit 0)))))])
 (cCond (.t 47) (cOps [(oF 48 (iMov (.t 8))),
 (oT 11 (iMov (.t 48)))]) cSkip))
 (cSeq (cOps [(oF 49 (iMov (.t 11))),
 (oF 50 (iMov (.t 1))),
 (oF 51 (iMov (.t 9))),
 (oF 52 (iArith .mul (.c (.int .i64 (.lit 3))) (.t 51))),
 (oF 53 (iArith .add (.t 52) (.c (.int .i64 (.lit 1))))),
 (oF 54 (iCall (.c (.func (.func 37) [] [])) [(.t 50), (.t 53)])),
 (oF 55 (iCall (.c (.func (.func 18) [] [])) [(.t 54), (.c (.int .i64 (.lit 9)))])),
 (oF 56 (iArith .add (.t 49) (.t 55))),
 (oF 57 (iMin [(.c (.int .i64 (.lit 99))), (.t 56)])),
 (oT 12 (iMov (.t 57)))])
 (cSeq (cOps [(oF 58 (iMov (.t 1))),
 (oF 59 (iMov (.t 9))),
 (oF 60 (iArith .mul (.c (.int .i64 (.lit 3))) (.t 59))),
 (oF 61 (iArith .add (.t 60) (.c (.int .i64 (.lit 2))))),
 (oF 62 (iCall (.c (.func (.func 37) [] [])) [(.t 58), (.t 61)])),
 (oF 63 (iCall (.c (.func (.func 18) [] [])) [(.t 62), (.c (.int .i64 (.lit 4)))])),
 (oT 13 (iMov (.t 63)))])
 (cSeq (dOps 0 [⟨(oF 64 (iFaddr 0 (.t 7))), [7], false, 0, 3, none, []⟩,
 ⟨(oF 65 (iLoad (.t 64))), [64], false, 0, 3, none, []⟩,
 ⟨(oF 66 (iMov (.t 10))), [10], false, 0, 3, none, []⟩,
 ⟨(oF 67 (iMov (.t 11))), [11], false, 0, 2, none, []⟩,
 ⟨(oF 68 (iMov (.t 13))), [13], false, 0, 2, none, []⟩,
 ⟨(oF 69 (iArith .sub (.t 67) (.t 68))), [67, 68], false, 0, 2, none, []⟩,
 ⟨(oF 70 (iMax [(.c (.int .i64 (.lit 0))), (.t 69)])), [69], false, 0, 2, none, []⟩,
 ⟨(oF 71 (iMov (.t 11))), [11], false, 0, 2, none, []⟩,
 ⟨(oF 72 (iMov (.t 1))), [1], false, 0, 0, none, []⟩,
 ⟨(oF 73 (iMov (.t 9))), [9], false, 0, 0, none, []⟩,
 ⟨(oF 74 (iCall (.c (.func (.func 37) [] [])) [(.t 72), (.t 73)])), [72, 73], true, 0, 0, none, []⟩,
 ⟨(oF 75 (iCall (.c (.func (.func 18) [] [])) [(.t 74), (.c (.int .i64 (.lit 3)))])), [74], true, 1, 0, none, []⟩,
 ⟨(oF 76 (iArith .add (.t 71) (.t 75))), [71, 75], false, 2, 2, none, []⟩,
 ⟨(oF 77 (iMin [(.c (.int .i64 (.lit 99))), (.t 76)])), [76], false, 2, 2, none, []⟩,
 ⟨(oF 78 (iCall (.c (.func (.func 23) [] [])) [(.t 70), (.t 77)])), [70, 77], true, 2, 0, none, []⟩,
 ⟨(oF 79 (iIaddr 6 (.t 65) (.t 66))), [65, 66], false, 3, 3, none, []⟩,
 ⟨(oF 80 (iFaddr 0 (.t 79))), [79], false, 3, 3, none, []⟩,
 ⟨(oN (iStore 2 (.t 80) (.t 78))), [80, 78], true, 3, 0, none, []⟩])
 (cSeq (dOps 0 [⟨(oF 81 (iFaddr 0 (.t 7))), [7], false, 0, 3, none, []⟩,
 ⟨(oF 82 (iLoad (.t 81))), [81], false, 0, 3, none, []⟩,
 ⟨(oF 83 (iMov (.t 10))), [10], false, 0, 3, none, []⟩,
 ⟨(oF 84 (iMov (.t 12))), [12], false, 0, 2, none, []⟩,
 ⟨(oF 85 (iMov (.t 1))), [1], false, 0, 0, none, []⟩,
 ⟨(oF 86 (iMov (.t 9))), [9], false, 0, 0, none, []⟩,
 ⟨(oF 87 (iArith .add (.t 86) (.c (.int .i64 (.lit 2))))), [86], false, 0, 0, none, []⟩,
 ⟨(oF 88 (iCall (.c (.func (.func 37) [] [])) [(.t 85), (.t 87)])), [85, 87], true, 0, 0, none, []⟩,
 ⟨(oF 89 (iCall (.c (.func (.func 18) [] [])) [(.t 88), (.c (.int .i64 (.lit 3)))])), [88], true, 1, 0, none, []⟩,
 ⟨(oF 90 (iArith .sub (.t 84) (.t 89))), [84, 89], false, 2, 2, none, []⟩,
 ⟨(oF 91 (iMax [(.c (.int .i64 (.lit 0))), (.t 90)])), [90], false, 2, 2, none, []⟩,
 ⟨(oF 92 (iMov (.t 12))), [12], false, 0, 2, none, []⟩,
 ⟨(oF 93 (iMov (.t 13))), [13], false, 0, 2, none, []⟩,
 ⟨(oF 94 (iArith .add (.t 92) (.t 93))), [92, 93], false, 0, 2, none, []⟩,
 ⟨(oF 95 (iMin [(.c (.int .i64 (.lit 99))), (.t 94)])), [94], false, 0, 2, none, []⟩,
 ⟨(oF 96 (iCall (.c (.func (.func 23) [] [])) [(.t 91), (.t 95)])), [91, 95], true, 2, 0, none, []⟩,
 ⟨(oF 97 (iIaddr 6 (.t 82) (.t 83))), [82, 83], false, 3, 3, none, []⟩,
 ⟨(oF 98 (iFaddr 2 (.t 97))), [97], false, 3, 3, none, []⟩,
 ⟨(oN (iStore 2 (.t 98) (.t 96))), [98, 96], true, 3, 0, none, []⟩])
 (cOps [(oF 99 (iMov (.t 12))),
 (oT 8 (iMov (.t 99)))])))))))))
 (cOps [(oF 32 (iMov (.t 9))),
 (oF 33 (iArith .add (.t 32) (.c (.int .i64 (.lit 1))))),
 (oT 9 (iMov (.t 33)))]))))))
 (cSeq (cOps [(oF 100 (iLoadN 6 (.t 7))),
 (oF 101 (iMov (.t 6))),
 (oN (iStore 6 (.t 4) (.t 100))),
 (oT 5 (iMov (.t 101)))])
 cRet))))))), [.cell 4 true 6, .t 5]⟩
def Tryd.kp10 : List Nat := [0, 1, 2, 4, 5, 6, 7, 14, 19]
def Tryd.cf10 : CF := ⟨2, (cSeq (cOps [(oT 2 (iBox 26 (.t 0))),
 (oT 4 (iMov (.c (.bool (.lit false))))),
 (oT 5 (iMov (.c (.int .i64 (.lit 0)))))])
 (cSeq (cOps [(oF 9 (iLoadN 6 (.t 2))),
 (oF 10 (iCall (.c (.func (.func 38) [] [])) [(.t 9)])),
 (oF 8 (iMov (.t 10))),
 (oF 11 (iExtract 0 (.t 8))),
 (oF 12 (iExtract 1 (.t 8))),
 (oT 6 (iAlloc 73 [.nilslice, (.int .i64 (.lit 0)), (.int .i64 (.lit 0)), (.int .i64 (.lit 0)), (.int .i64 (.lit 0)), (.int .i64 (.lit 0)), .nilmap])),
 (oN (iStore 7 (.t 6) (.t 11))),
 (oT 7 (iMov (.t 12)))])
 (cSeq (cSeq (cOps [(oF 13 (iMov (.t 7))),
 (oT 14 (iCmp .neq (.t 13) (.c (.int .i64 (.lit 0)))))])
 (cCond (.t 14) (cSeq (cOps [(oF 15 (iMov (.t 7))),
 (oT 4 (iMov (.c (.bool (.lit false))))),
 (oT 5 (iMov (.t 15)))])
 cRet) cSkip))
 (cSeq (cSeq (cOps [(oF 16 (iLoadN 7 (.t 6))),
 (oF 17 (iMov (.t 1))),
 (oF 18 (iCall (.c (.func (.func 39) [] [])) [(.t 16), (.t 17)])),
 (oT 19 (iNot (.t 18)))])
 (cCond (.t 19) (cSeq (cOps [(oT 4 (iMov (.c (.bool (.lit false))))),
 (oT 5 (iMov (.c (.int .i64 (.lit 11)))))])
 cRet) cSkip))
 (cSeq (cOps [(oF 20 (iLoadN 7 (.t 6))),
 (oF 21 (iMov (.t 1))),
 (oF 22 (iCall (.c (.func (.func 40) [] [])) [(.t 20), (.t 21)])),
 (oT 4 (iMov (.t 22))),
 (oT 5 (iMov (.c (.int .i64 (.lit 0)))))])
 cRet))))), [.t 4, .t 5]⟩
def Tryd.ra11017 : C := cSkip
def Tryd.rb11017 : C := (cBlock 1 (cOps [(oF 18 (iLoad (.t 6))),
 (oF 19 (iArith .add (.t 18) (.c (.int .i64 (.lit 1))))),
 (oN (iStore 1 (.t 6) (.t 19)))]))
def Tryd.kp11 : List Nat := [0, 1, 2, 3, 4, 5, 6, 13, 16, 17]
def Tryd.cf11 : CF := ⟨1, (cSeq (cOps [(oT 1 (iBox 26 (.t 0))),
 (oT 2 (iMov (.c (.int .i64 (.lit 0))))),
 (oT 3 (iMov (.c (.int .i64 (.lit 0)))))])
 (cSeq (cOps [(oF 8 (iLoadN 6 (.t 1))),
 (oF 9 (iCall (.c (.func (.func 38) [] [])) [(.t 8)])),
 (oF 7 (iMov (.t 9))),
 (oF 10 (iExtract 0 (.t 7))),
 (oF 11 (iExtract 1 (.t 7))),
 (oT 4 (iAlloc 73 [.nilslice, (.int .i64 (.lit 0)), (.int .i64 (.lit 0)), (.int .i64 (.lit 0)), (.int .i64 (.lit 0)), (.int .i64 (.lit 0)), .nilmap])),
 (oN (iStore 7 (.t 4) (.t 10))),
 (oT 5 (iMov (.t 11)))])
 (cSeq (cSeq (cOps [(oF 12 (iMov (.t 5))),
 (oT 13 (iCmp .neq (.t 12) (.c (.int .i64 (.lit 0)))))])
 (cCond (.t 13) (cSeq (cOps [(oF 14 (iMov (.t 5))),
 (oT 2 (iMov (.c (.int .i64 (.lit 0))))),
 (oT 3 (iMov (.t 14)))])
 cRet) cSkip))
 (cSeq (cOps [(oT 6 (iAlloc 3 [(.int .i64 (.lit 0))])),
 (oN (iStore 1 (.t 6) (.c (.int .i64 (.lit 0)))))])
 (cSeq (cSeq (cOps [(oF 15 (iLoadN 7 (.t 4))),
 (oT 16 (iCall (.c (.func (.func 41) [] [])) [(.t 15)]))])
 (cBlock 0 (cRange (.t 16) [17] 11017)))
 (cSeq (cOps [(oF 20 (iLoad (.t 6))),
 (oT 2 (iMov (.t 20))),
 (oT 3 (iMov (.c (.int .i64 (.lit 0)))))])
 cRet)))))), [.t 2, .t 3]⟩
def Tryd.ra12017 : C := (cOps [(oT 6 (iMov (.t 17)))])
def Tryd.rb12017 : C := (cBlock 1 (cSeq (cOps [(oF 18 (iMov (.t 6))),
 (oF 19 (iCall (.c (.func (.func 42) [] [])) [(.t 18)])),
 (oN (iStore 1 (.t 2) (.t 19))),
 (oN (iStore 1 (.t 3) (.c (.int .i64 (.lit 0)))))])
 cRet))
def Tryd.kp12 : List Nat := [0, 1, 2, 3, 4, 5, 6, 13, 16, 17]
def Tryd.cf12 : CF := ⟨1, (cSeq (cOps [(oT 1 (iBox 26 (.t 0))),
 (oT 2 (iAlloc 27 [.nilslice])),
 (oT 3 (iAlloc 33 [(.int .i64 (.lit 0))]))])
 (cSeq (cOps [(oF 8 (iLoadN 6 (.t 1))),
 (oF 9 (iCall (.c (.func (.func 38) [] [])) [(.t 8)])),
 (oF 7 (iMov (.t 9))),
 (oF 10 (iExtract 0 (.t 7))),
 (oF 11 (iExtract 1 (.t 7))),
 (oT 4 (iAlloc 73 [.nilslice, (.int .i64 (.lit 0)), (.int .i64 (.lit 0)), (.int .i64 (.lit 0)), (.int .i64 (.lit 0)), (.int .i64 (.lit 0)), .nilmap])),
 (oN (iStore 7 (.t 4) (.t 10))),
 (oT 5 (iMov (.t 11)))])
 (cSeq (cSeq (cOps [(oF 12 (iMov (.t 5))),
 (oT 13 (iCmp .neq (.t 12) (.c (.int .i64 (.lit 0)))))])
 (cCond (.t 13) (cSeq (cOps [(oF 14 (iMov (.t 5))),
 (oN (iStore 1 (.t 2) (.c .nilslice))),
 (oN (iStore 1 (.t 3) (.t 14)))])
 cRet) cSkip))
 (cSeq (cSeq (cOps [(oF 15 (iLoadN 7 (.t 4))),
 (oT 16 (iCall (.c (.func (.func 41) [] [])) [(.t 15)]))])
 (cBlock 0 (cRange (.t 16) [17] 12017)))
 (cSeq (cOps [(oN (iStore 1 (.t 2) (.c .nilslice))),
 (oN (iStore 1 (.t 3) (.c (.int .i64 (.lit 4)))))])
 cRet))))), [.cell 2 false 1, .cell 3 false 1]⟩
def Tryd.kp13 : List Nat := [0, 1, 2, 3, 4, 5, 12]
def Tryd.cf13 : CF := ⟨1, (cSeq (cOps [(oT 1 (iBox 26 (.t 0))),
 (oT 2 (iMov (.c .nilslice))),
 (oT 3 (iMov (.c (.int .i64 (.lit 0)))))])
 (cSeq (cOps [(oF 7 (iLoadN 6 (.t 1))),
 (oF 8 (iCall (.c (.func (.func 38) [] [])) [(.t 7)])),
 (oF 6 (iMov (.t 8))),
 (oF 9 (iExtract 0 (.t 6))),
 (oF 10 (iExtract 1 (.t 6))),
 (oT 4 (iAlloc 73 [.nilslice, (.int .i64 (.lit 0)), (.int .i64 (.lit 0)), (.int .i64 (.lit 0)), (.int .i64 (.lit 0)), (.int .i64 (.lit 0)), .nilmap])),
 (oN (iStore 7 (.t 4) (.t 9))),
 (oT 5 (iMov (.t 10)))])
 (cSeq (cSeq (cOps [(oF 11 (iMov (.t 5))),
 (oT 12 (iCmp .neq (.t 11) (.c (.int .i64 (.lit 0)))))])
 (cCond (.t 12) (cSeq (cOps [(oF 13 (iMov (.t 5))),
 (oT 2 (iMov (.c .nilslice))),
 (oT 3 (iMov (.t 13)))])
 cRet) cSkip))
 (cSeq (cOps [(oF 14 (iLoadN 7 (.t 4))),
 (oF 15 (iCall (.c (.func (.func 43) [] [])) [(.t 14)])),
 (oT 2 (iMov (.t 15))),
 (oT 3 (iMov (.c (.int .i64 (.lit 0)))))])
 cRet)))), [.t 2, .t 3]⟩
def Tryd.kp14 : List Nat := [0, 1, 4, 5, 15, 26]
def Tryd.cf14 : CF := ⟨2, (cSeq (cOps [(oT 4 (iMov (.c (.bool (.lit false)))))])
 (cSeq (cSeq (cOps [(oT 5 (iMov (.c (.int .i64 (.lit 0)))))])
 (cBlock 0 (cLoop (cSeq (cSeq (cOps [(oF 6 (iMov (.t 5))),
 (oF 7 (iMov (.t 0))),
 (oF 8 (iLenS (.t 7))),
 (oF 9 (iCmp .lss (.t 6) (.t 8))),
 (oF 10 (iMov (.t 9))),
 ⟨some 11, false, some (10, true), iMov (.t 5)⟩,
 ⟨some 12, false, some (10, true), iMov (.t 1)⟩,
 ⟨some 13, false, some (10, true), iLenS (.t 12)⟩,
 ⟨some 14, false, some (10, true), iCmp .lss (.t 11) (.t 13)⟩,
 (oT 15 (iPick (.t 10) (.t 14) (.c (.bool (.lit false)))))])
 (cCond (.t 15) cSkip (cExit 0)))
 (cSeq (cBlock 1 (cSeq (dOps 0 [⟨(oF 18 (iMov (.t 0))), [0], false, 0, 0, none, []⟩,
 ⟨(oF 19 (iMov (.t 5))), [5], false, 0, 0, none, []⟩,
 ⟨(oF 20 (iIaddr 1 (.t 18) (.t 19))), [18, 19], false, 0, 0, none, []⟩,
 ⟨(oF 21 (iLoad (.t 20))), [20], false, 0, 0, none, []⟩,
 ⟨(oF 22 (iMov (.t 1))), [1], false, 0, 0, none, []⟩,
 ⟨(oF 23 (iMov (.t 5))), [5], false, 0, 0, none, []⟩,
 ⟨(oF 24 (iIaddr 1 (.t 22) (.t 23))), [22, 23], false, 0, 0, none, []⟩,
 ⟨(oF 25 (iLoad (.t 24))), [24], false, 0, 0, none, []⟩,
 ⟨(oT 26 (iCmp .neq (.t 21) (.t 25))), [21, 25], false, 0, 0, none, []⟩])
 (cCond (.t 26) (cSeq (dOps 0 [⟨(oF 27 (iMov (.t 0))), [0], false, 0, 0, none, []⟩,
 ⟨(oF 28 (iMov (.t 5))), [5], false, 0, 0, none, []⟩,
 ⟨(oF 29 (iIaddr 1 (.t 27) (.t 28))), [27, 28], false, 0, 0, none, []⟩,
 ⟨(oF 30 (iLoad (.t 29))), [29], false, 0, 0, none, []⟩,
 ⟨(oF 31 (iMov (.t 1))), [1], false, 0, 0, none, []⟩,
 ⟨(oF 32 (iMov (.t 5))), [5], false, 0, 0, none, []⟩,
 ⟨(oF 33 (iIaddr 1 (.t 31) (.t 32))), [31, 32], false, 0, 0, none, []⟩,
 ⟨(oF 34 (iLoad (.t 33))), [33], false, 0, 0, none, []⟩,
 ⟨(oF 35 (iCmp .lss (.t 30) (.t 34))), [30, 34], false, 0, 0, none, []⟩,
 ⟨(oT 4 (iMov (.t 35))), [35], false, 0, 0, none, []⟩])
 cRet) cSkip)))
 (cOps [(oF 16 (iMov (.t 5))),
 (oF 17 (iArith .add (.t 16) (.c (.int .i64 (.lit 1))))),
 (oT 5 (iMov (.t 17)))]))))))
 (cSeq (cOps [(oF 36 (iMov (.t 0))),
 (oF 37 (iLenS (.t 36))),
 (oF 38 (iMov (.t 1))),
 (oF 39 (iLenS (.t 38))),
 (oF 40 (iCmp .lss (.t 37) (.t 39))),
 (oT 4 (iMov (.t 40)))])
 cRet))), [.t 4]⟩
def Tryd.kp15 : List Nat := [0, 1, 2, 4, 5, 6, 7, 8, 15, 20, 26]
def Tryd.cf15 : CF := ⟨2, (cSeq (cOps [(oT 2 (iBox 26 (.t 0))),
 (oT 4 (iMov (.c .nilslice))),
 (oT 5 (iMov (.c (.int .i64 (.lit 0)))))])
 (cSeq (cOps [(oF 10 (iLoadN 6 (.t 2))),
 (oF 11 (iCall (.c (.func (.func 38) [] [])) [(.t 10)])),
 (oF 9 (iMov (.t 11))),
 (oF 12 (iExtract 0 (.t 9))),
 (oF 13 (iExtract 1 (.t 9))),
 (oT 6 (iAlloc 73 [.nilslice, (.int .i64 (.lit 0)), (.int .i64 (.lit 0)), (.int .i64 (.lit 0)), (.int .i64 (.lit 0)), (.int .i64 (.lit 0)), .nilmap])),
 (oN (iStore 7 (.t 6) (.t 12))),
 (oT 7 (iMov (.t 13)))])
 (cSeq (cSeq (cOps [(oF 14 (iMov (.t 7))),
 (oT 15 (iCmp .neq (.t 14) (.c (.int .i64 (.lit 0)))))])
 (cCond (.t 15) (cSeq (cOps [(oF 16 (iMov (.t 7))),
 (oT 4 (iMov (.c .nilslice))),
 (oT 5 (iMov (.t 16)))])
 cRet) cSkip))
 (cSeq (cSeq (cOps [(oF 17 (iLoadN 7 (.t 6))),
 (oF 18 (iMov (.t 1))),
 (oF 19 (iCall (.c (.func (.func 44) [] [])) [(.t 17), (.t 18)])),
 (oT 20 (iNot (.t 19)))])
 (cCond (.t 20) (cSeq (cOps [(oT 4 (iMov (.c .nilslice))),
 (oT 5 (iMov (.c (.int .i64 (.lit 11)))))])
 cRet) cSkip))
 (cSeq (cOps [(oF 21 (iLoadN 7 (.t 6))),
 (oF 22 (iMov (.t 1))),
 (oF 23 (iCall (.c (.func (.func 45) [] [])) [(.t 21), (.t 22)])),
 (oT 8 (iAlloc 84 [(.bool (.lit false)), (.bool (.lit false)), (.bool (.lit false)), (.bool (.lit false)), (.bool (.lit false)), (.bool (.lit false))])),
 (oN (iStore 6 (.t 8) (.t 23)))])
 (cSeq (cSeq (cOps [(oF 24 (iLoadN 6 (.t 8))),
 (oF 25 (iBuild [(.bool (.lit false)), (.bool (.lit false)), (.bool (.lit false)), (.bool (.lit false)), (.bool (.lit false)), (.bool (.lit false))] [])),
 (oT 26 (iEq false true 6 [(0, .bool), (1, .bool), (2, .bool), (3, .bool), (4, .bool), (5, .bool)] (.t 24) (.t 25)))])
 (cCond (.t 26) (cSeq (cOps [(oT 4 (iMov (.c .nilslice))),
 (oT 5 (iMov (.c (.int .i64 (.lit 4)))))])
 cRet) cSkip))
 (cSeq (cOps [(oF 27 (iLoadN 6 (.t 8))),
 (oF 28 (iCall (.c (.func (.func 46) [] [])) [(.t 27)])),
 (oT 4 (iMov (.t 28))),
 (oT 5 (iMov (.c (.int .i64 (.lit 0)))))])
 cRet))))))), [.t 4, .t 5]⟩
def Tryd.kp16 : List Nat := [0, 1, 4, 5, 9, 17]
def Tryd.cf16 : CF := ⟨2, (cSeq (cOps [(oT 4 (iMov (.c (.int .i64 (.lit 0)))))])
 (cSeq (cSeq (cOps [(oT 5 (iMov (.c (.int .i64 (.lit 0)))))])
 (cBlock 0 (cLoop (cSeq (cSeq (cOps [(oF 6 (iMov (.t 5))),
 (oF 7 (iMov (.t 0))),
 (oF 8 (iLenS (.t 7))),
 (oT 9 (iCmp .lss (.t 6) (.t 8)))])
 (cCond (.t 9) cSkip (cExit 0)))
 (cSeq (cBlock 1 (cSeq (cOps [(oF 12 (iMov (.t 0))),
 (oF 13 (iMov (.t 5))),
 (oF 14 (iIaddr 1 (.t 12) (.t 13))),
 (oF 15 (iLoad (.t 14))),
 (oF 16 (iMov (.t 1))),
 (oT 17 (iCmp .eql (.t 15) (.t 16)))])
 (cCond (.t 17) (cSeq (cOps [(oF 18 (iMov (.t 5))),
 (oT 4 (iMov (.t 18)))])
 cRet) cSkip)))
 (cOps [(oF 10 (iMov (.t 5))),
 (oF 11 (iArith .add (.t 10) (.c (.int .i64 (.lit 1))))),
 (oT 5 (iMov (.t 11)))]))))))
 (cSeq (cOps [(oT 4 (iMov (.c (.int .i64 (.lit (-1))))))])
 cRet))), [.t 4]⟩
def Tryd.kp17 : List Nat := [0, 1, 4, 5, 6, 10, 22]
def Tryd.cf17 : CF := ⟨2, (cSeq (cOps [(oT 4 (iMov (.c (.bool (.lit false)))))])
 (cSeq (cOps [(oT 5 (iMov (.c (.int .i64 (.lit (-1))))))])
 (cSeq (cSeq (cOps [(oT 6 (iMov (.c (.int .i64 (.lit 0)))))])
 (cBlock 0 (cLoop (cSeq (cSeq (cOps [(oF 7 (iMov (.t 6))),
 (oF 8 (iMov (.t 0))),
 (oF 9 (iLenS (.t 8))),
 (oT 10 (iCmp .lss (.t 7) (.t 9)))])
 (cCond (.t 10) cSkip (cExit 0)))
 (cSeq (cBlock 1 (cSeq (cSeq (cOps [(oF 13 (iMov (.t 0))),
 (oF 14 (iMov (.t 6))),
 (oF 15 (iIaddr 1 (.t 13) (.t 14))),
 (oF 16 (iLoad (.t 15))),
 (oF 17 (iMov (.t 5))),
 (oF 18 (iArith .add (.t 17) (.c (.int .i64 (.lit 1))))),
 (oF 19 (iMov (.t 1))),
 (oF 20 (iArith .sub (.t 19) (.c (.int .i64 (.lit 1))))),
 (oF 21 (iCall (.c (.func (.func 25) [] [])) [(.t 16), (.t 18), (.t 20)])),
 (oT 22 (iNot (.t 21)))])
 (cCond (.t 22) (cSeq (cOps [(oT 4 (iMov (.c (.bool (.lit false)))))])
 cRet) cSkip))
 (cOps [(oF 23 (iMov (.t 0))),
 (oF 24 (iMov (.t 6))),
 (oF 25 (iIaddr 1 (.t 23) (.t 24))),
 (oF 26 (iLoad (.t 25))),
 (oT 5 (iMov (.t 26)))])))
 (cOps [(oF 11 (iMov (.t 6))),
 (oF 12 (iArith .add (.t 11) (.c (.int .i64 (.lit 1))))),
 (oT 6 (iMov (.t 12)))]))))))
 (cSeq (cOps [(oT 4 (iMov (.c (.bool (.lit true)))))])
 cRet)))), [.t 4]⟩
def Tryd.kp18 : List Nat := [0, 1, 4, 5, 7, 12]
def Tryd.cf18 : CF := ⟨2, (cSeq (cOps [(oT 4 (iMov (.c (.int .i64 (.lit 0)))))])
 (cSeq (cSeq (cOps [(oF 6 (iMov (.t 1))),
 (oT 7 (iCmp .lss (.t 6) (.c (.int .i64 (.lit 1)))))])
 (cCond (.t 7) (cSeq (cOps [(oT 4 (iMov (.c (.int .i64 (.lit 0)))))])
 cRet) cSkip))
 (cSeq (cOps [(oF 8 (iMov (.t 0))),
 (oF 9 (iMov (.t 1))),
 (oF 10 (iArith .rem (.t 8) (.t 9))),
 (oT 5 (iMov (.t 10)))])
 (cSeq (cSeq (cOps [(oF 11 (iMov (.t 5))),
 (oT 12 (iCmp .lss (.t 11) (.c (.int .i64 (.lit 0)))))])
 (cCond (.t 12) (cOps [(oF 13 (iMov (.t 5))),
 (oF 14 (iMov (.t 1))),
 (oF 15 (iArith .add (.t 13) (.t 14))),
 (oT 5 (iMov (.t 15)))]) cSkip))
 (cSeq (cOps [(oF 16 (iMov (.t 5))),
 (oT 4 (iMov (.t 16)))])
 cRet))))), [.t 4]⟩
def Tryd.kp19 : List Nat := [0, 1, 4, 5, 6, 7, 8, 11]
def Tryd.cf19 : CF := ⟨2, (cSeq (cOps [(oT 4 (iMov (.c .nilslice)))])
 (cSeq (cOps [(oT 5 (iMov (.c .nilslice)))])
 (cSeq (cSeq (cOps [(oT 6 (iMov (.c (.int .i64 (.lit 0)))))])
 (cBlock 0 (cLoop (cSeq (cSeq (cOps [(oF 9 (iMov (.t 6))),
 (oF 10 (iMov (.t 0))),
 (oT 11 (iCmp .lss (.t 9) (.t 10)))])
 (cCond (.t 11) cSkip (cExit 0)))
 (cSeq (cBlock 1 (cSeq (cOps [(oF 14 (iMov (.t 1))),
 (oF 15 (iMov (.t 6))),
 (oF 16 (iCall (.c (.func (.func 37) [] [])) [(.t 14), (.t 15)])),
 (oF 17 (iMov (.t 5))),
 (oF 18 (iLenS (.t 17))),
 (oF 19 (iArith .add (.t 18) (.c (.int .i64 (.lit 1))))),
 (oF 20 (iCall (.c (.func (.func 18) [] [])) [(.t 16), (.t 19)])),
 (oT 7 (iMov (.t 20)))])
 (cSeq (cOps [(oF 21 (iBslice 3 [(.int .i64 (.lit 0))] 0 [])),
 (oF 22 (iMov (.t 5))),
 (oF 23 (iMov (.t 7))),
 (oF 24 (iSlice 1 (.t 22) none (some (.t 23)) none)),
 (oF 25 (iAppend 3 1 8 (.t 21) (.t 24))),
 (oT 8 (iMov (.t 25)))])
 (dOps 0 [⟨(oF 26 (iMov (.t 8))), [8], false, 0, 1, none, []⟩,
 ⟨(oF 27 (iMov (.t 6))), [6], false, 0, 0, none, []⟩,
 ⟨(oF 28 (iBslice 3 [(.int .i64 (.lit 0))] 1 [(0, 1, (.t 27))])), [27], true, 0, 0, none, []⟩,
 ⟨(oF 29 (iAppend 3 1 8 (.t 26) (.t 28))), [26, 28], true, 1, 0, none, []⟩,
 ⟨(oF 30 (iMov (.t 5))), [5], false, 0, 2, none, []⟩,
 ⟨(oF 31 (iMov (.t 7))), [7], false, 0, 2, none, []⟩,
 ⟨(oF 32 (iSlice 1 (.t 30) (some (.t 31)) none none)), [30, 31], false, 0, 2, none, []⟩,
 ⟨(oF 33 (iAppend 3 1 8 (.t 29) (.t 32))), [29, 32], true, 2, 0, none, []⟩,
 ⟨(oT 5 (iMov (.t 33))), [33], false, 3, 3, none, []⟩]))))
 (cOps [(oF 12 (iMov (.t 6))),
 (oF 13 (iArith .add (.t 12) (.c (.int .i64 (.lit 1))))),
 (oT 6 (iMov (.t 13)))]))))))
 (cSeq (cOps [(oF 34 (iMov (.t 5))),
 (oT 4 (iMov (.t 34)))])
 cRet)))), [.t 4]⟩
def Tryd.kp23 : List Nat := [0, 1, 4]
def Tryd.cf23 : CF := ⟨2, (cSeq (cOps [(oT 4 (iAlloc 24 [(.int .i64 (.lit 0)), (.int .i64 (.lit 0))]))])
 (cSeq (cOps [(oF 5 (iMov (.t 0))),
 (oF 6 (iMov (.t 1))),
 (oF 7 (iBuild [(.int .i64 (.lit 0)), (.int .i64 (.lit 0))] [(0, 1, (.t 5)), (1, 1, (.t 6))])),
 (oN (iStore 2 (.t 4) (.t 7)))])
 cRet)), [.cell 4 true 2]⟩
def Tryd.kp24 : List Nat := [0, 1, 2, 5]
def Tryd.cf24 : CF := ⟨1, (cSeq (cOps [(oT 1 (iBox 26 (.t 0))),
 (oT 2 (iMov (.c (.int .i64 (.lit 0)))))])
 (cSeq (cSeq (cOps [(oF 3 (iLoadN 6 (.t 1))),
 (oF 4 (iCall (.c (.func (.func 49) [] [])) [(.t 3)])),
 (oT 5 (iNot (.t 4)))])
 (cCond (.t 5) (cSeq (cOps [(oT 2 (iMov (.c (.int .i64 (.lit 10)))))])
 cRet) cSkip))
 (cSeq (cOps [(oT 2 (iMov (.c (.int .i64 (.lit 0)))))])
 cRet))), [.t 2]⟩
def Tryd.kp25 : List Nat := [0, 1, 2, 6]
def Tryd.cf25 : CF := ⟨3, (cSeq (cOps [(oT 6 (iMov (.c (.bool (.lit false)))))])
 (cSeq (cOps [(oF 7 (iMov (.t 0))),
 (oF 8 (iMov (.t 1))),
 (oF 9 (iCmp .geq (.t 7) (.t 8))),
 (oF 10 (iMov (.t 9))),
 ⟨some 11, false, some (10, true), iMov (.t 0)⟩,
 ⟨some 12, false, some (10, true), iMov (.t 2)⟩,
 ⟨some 13, false, some (10, true), iCmp .leq (.t 11) (.t 12)⟩,
 (oF 14 (iPick (.t 10) (.t 13) (.c (.bool (.lit false))))),
 (oT 6 (iMov (.t 14)))])
 cRet)), [.t 6]⟩
def Tryd.kp26 : List Nat := [0, 1, 2, 3, 6]
def Tryd.cf26 : CF := ⟨3, (cSeq (cOps [(oT 3 (iBox 24 (.t 0))),
 (oT 6 (iMov (.c (.bool (.lit false)))))])
 (cSeq (cOps [(oF 7 (iMov (.t 1))),
 (oF 8 (iFaddr 0 (.t 3))),
 (oF 9 (iLoad (.t 8))),
 (oF 10 (iCmp .leq (.t 7) (.t 9))),
 (oF 11 (iMov (.t 10))),
 ⟨some 12, false, some (11, true), iFaddr 0 (.t 3)⟩,
 ⟨some 13, false, some (11, true), iLoad (.t 12)⟩,
 ⟨some 14, false, some (11, true), iFaddr 1 (.t 3)⟩,
 ⟨some 15, false, some (11, true), iLoad (.t 14)⟩,
 ⟨some 16, false, some (11, true), iCmp .leq (.t 13) (.t 15)⟩,
 (oF 17 (iPick (.t 11) (.t 16) (.c (.bool (.lit false))))),
 (oF 18 (iMov (.t 17))),
 ⟨some 19, false, some (18, true), iFaddr 1 (.t 3)⟩,
 ⟨some 20, false, some (18, true), iLoad (.t 19)⟩,
 ⟨some 21, false, some (18, true), iMov (.t 2)⟩,
 ⟨some 22, false, some (18, true), iCmp .leq (.t 20) (.t 21)⟩,
 (oF 23 (iPick (.t 18) (.t 22) (.c (.bool (.lit false))))),
 (oT 6 (iMov (.t 23)))])
 cRet)), [.t 6]⟩
def Tryd.kp27 : List Nat := [0]
def Tryd.cf27 : CF := ⟨0, (cSeq (cOps [(oT 0 (iAlloc 26 [.nilslice, (.int .i64 (.lit 0)), (.int .i64 (.lit 0)), (.int .i64 (.lit 0)), (.int .i64 (.lit 0)), (.int .i64 (.lit 0))]))])
 (cSeq (cOps [(oF 1 (iCall (.c (.func (.func 23) [] [])) [(.c (.int .i64 (.lit 10))), (.c (.int .i64 (.lit 12)))])),
 (oF 2 (iCall (.c (.func (.func 23) [] [])) [(.c (.int .i64 (.lit 20))), (.c (.int .i64 (.lit 20)))])),
 (oF 3 (iCall (.c (.func (.func 23) [] [])) [(.c (.int .i64 (.lit 900))), (.c (.int .i64 (.lit 900)))])),
 (oF 4 (iBuild [(.int .i64 (.lit 0)), (.int .i64 (.lit 0)), (.int .i64 (.lit 0)), (.int .i64 (.lit 0)), (.int .i64 (.lit 0)), (.int .i64 (.lit 0))] [(0, 2, (.t 1)), (2, 2, (.t 2)), (4, 2, (.t 3))])),
 (oF 5 (iCall (.c (.func (.func 23) [] [])) [(.c (.int .i64 (.lit 1))), (.c (.int .i64 (.lit 1)))])),
 (oF 6 (iCall (.c (.func (.func 23) [] [])) [(.c (.int .i64 (.lit 9))), (.c (.int .i64 (.lit 11)))])),
 (oF 7 (iCall (.c (.func (.func 23) [] [])) [(.c (.int .i64 (.lit 950))), (.c (.int .i64 (.lit 1000)))])),
 (oF 8 (iBuild [(.int .i64 (.lit 0)), (.int .i64 (.lit 0)), (.int .i64 (.lit 0)), (.int .i64 (.lit 0)), (.int .i64 (.lit 0)), (.int .i64 (.lit 0))] [(0, 2, (.t 5)), (2, 2, (.t 6)), (4, 2, (.t 7))])),
 (oF 9 (iCall (.c (.func (.func 23) [] [])) [(.c (.int .i64 (.lit 20))), (.c (.int .i64 (.lit 22)))])),
 (oF 10 (iCall (.c (.func (.func 23) [] [])) [(.c (.int .i64 (.lit 20))), (.c (.int .i64 (.lit 30)))])),
 (oF 11 (iCall (.c (.func (.func 23) [] [])) [(.c (.int .i64 (.lit 800))), (.c (.int .i64 (.lit 820)))])),
 (oF 12 (iBuild [(.int .i64 (.lit 0)), (.int .i64 (.lit 0)), (.int .i64 (.lit 0)), (.int .i64 (.lit 0)), (.int .i64 (.lit 0)), (.int .i64 (.lit 0))] [(0, 2, (.t 9)), (2, 2, (.t 10)), (4, 2, (.t 11))])),
 (oF 13 (iCall (.c (.func (.func 23) [] [])) [(.c (.int .i64 (.lit 20))), (.c (.int .i64 (.lit 31)))])),
 (oF 14 (iCall (.c (.func (.func 23) [] [])) [(.c (.int .i64 (.lit 20))), (.c (.int .i64 (.lit 40)))])),
 (oF 15 (iCall (.c (.func (.func 23) [] [])) [(.c (.int .i64 (.lit 700))), (.c (.int .i64 (.lit 700)))])),
 (oF 16 (iBuild [(.int .i64 (.lit 0)), (.int .i64 (.lit 0)), (.int .i64 (.lit 0)), (.int .i64 (.lit 0)), (.int .i64 (.lit 0)), (.int .i64 (.lit 0))] [(0, 2, (.t 13)), (2, 2, (.t 14)), (4, 2, (.t 15))])),
 (oF 17 (iBslice 53 [(.int .i64 (.lit 0)), (.int .i64 (.lit 0)), (.int .i64 (.lit 0)), (.int .i64 (.lit 0)), (.int .i64 (.lit 0)), (.int .i64 (.lit 0))] 4 [(0, 6, (.t 4)), (6, 6, (.t 8)), (12, 6, (.t 12)), (18, 6, (.t 16))])),
 (oF 18 (iCall (.c (.func (.func 23) [] [])) [(.c (.int .i64 (.lit 6))), (.c (.int .i64 (.lit 8)))])),
 (oF 19 (iCall (.c (.func (.func 23) [] [])) [(.c (.int .i64 (.lit 1))), (.c (.int .i64 (.lit 3)))])),
 (oF 20 (iBuild [.nilslice, (.int .i64 (.lit 0)), (.int .i64 (.lit 0)), (.int .i64 (.lit 0)), (.int .i64 (.lit 0)), (.int .i64 (.lit 0))] [(0, 1, (.t 17)), (1, 2, (.t 18)), (3, 2, (.t 19)), (5, 1, (.c (.int .i64 (.lit 2000))))])),
 (oN (iStore 6 (.t 0) (.t 20)))])
 cRet)), [.cell 0 true 6]⟩
def Tryd.kp28 : List Nat := [0, 1]
def Tryd.cf28 : CF := ⟨0, (cSeq (cOps [(oT 0 (iAlloc 26 [.nilslice, (.int .i64 (.lit 0)), (.int .i64 (.lit 0)), (.int .i64 (.lit 0)), (.int .i64 (.lit 0)), (.int .i64 (.lit 0))]))])
 (cSeq (cOps [(oF 2 (iCall (.c (.func (.func 27) [] [])) [])),
 (oT 1 (iAlloc 26 [.nilslice, (.int .i64 (.lit 0)), (.int .i64 (.lit 0)), (.int .i64 (.lit 0)), (.int .i64 (.lit 0)), (.int .i64 (.lit 0))])),
 (oN (iStore 6 (.t 1) (.t 2)))])
 (cSeq (dOps 0 [⟨(oF 3 (iFaddr 0 (.t 1))), [1], false, 0, 1, none, []⟩,
 ⟨(oF 4 (iLoad (.t 3))), [3], false, 0, 1, none, []⟩,
 ⟨(oF 5 (iCall (.c (.func (.func 23) [] [])) [(.c (.int .i64 (.lit 5))), (.c (.int .i64 (.lit 6)))])), [], true, 0, 0, none, []⟩,
 ⟨(oF 6 (iIaddr 6 (.t 4) (.c (.int .i64 (.lit 1))))), [4], false, 1, 1, none, []⟩,
 ⟨(oF 7 (iFaddr 2 (.t 6))), [6], false, 1, 1, none, []⟩,
 ⟨(oN (iStore 2 (.t 7) (.t 5))), [7, 5], true, 1, 0, none, []⟩])
 (cSeq (cOps [(oF 8 (iLoadN 6 (.t 1))),
 (oN (iStore 6 (.t 0) (.t 8)))])
 cRet)))), [.cell 0 true 6]⟩
def Tryd.kp29 : List Nat := [0, 1, 4, 5, 6, 18]
def Tryd.cf29 : CF := ⟨2, (cSeq (cOps [(oT 4 (iMov (.c (.bool (.lit false)))))])
 (cSeq (cOps [(oF 7 (iMov (.t 0))),
 (oF 8 (iLenS (.t 7))),
 (oF 9 (iMov (.t 1))),
 (oF 10 (iLenS (.t 9))),
 (oF 11 (iCmp .eql (.t 8) (.t 10))),
 (oT 5 (iMov (.t 11)))])
 (cSeq (cSeq (cOps [(oT 6 (iMov (.c (.int .i64 (.lit 0)))))])
 (cBlock 0 (cLoop (cSeq (cSeq (cOps [(oF 12 (iMov (.t 5))),
 (oF 13 (iMov (.t 12))),
 ⟨some 14, false, some (13, true), iMov (.t 6)⟩,
 ⟨some 15, false, some (13, true), iMov (.t 0)⟩,
 ⟨some 16, false, some (13, true), iLenS (.t 15)⟩,
 ⟨some 17, false, some (13, true), iCmp .lss (.t 14) (.t 16)⟩,
 (oT 18 (iPick (.t 13) (.t 17) (.c (.bool (.lit false)))))])
 (cCond (.t 18) cSkip (cExit 0)))
 (cSeq (cBlock 1 (dOps 0 [⟨(oF 21 (iMov (.t 0))), [0], false, 0, 0, none, []⟩,
 ⟨(oF 22 (iMov (.t 6))), [6], false, 0, 0, none, []⟩,
 ⟨(oF 23 (iIaddr 1 (.t 21) (.t 22))), [21, 22], false, 0, 0, none, []⟩,
 ⟨(oF 24 (iLoad (.t 23))), [23], false, 0, 0, none, []⟩,
 ⟨(oF 25 (iMov (.t 1))), [1], false, 0, 0, none, []⟩,
 ⟨(oF 26 (iMov (.t 6))), [6], false, 0, 0, none, []⟩,
 ⟨(oF 27 (iIaddr 1 (.t 25) (.t 26))), [25, 26], false, 0, 0, none, []⟩,
 ⟨(oF 28 (iLoad (.t 27))), [27], false, 0, 0, none, []⟩,
 ⟨(oF 29 (iCmp .eql (.t 24) (.t 28))), [24, 28], false, 0, 0, none, []⟩,
 ⟨(oT 5 (iMov (.t 29))), [29], false, 0, 0, none, []⟩]))
 (cOps [(oF 19 (iMov (.t 6))),
 (oF 20 (iArith .add (.t 19) (.c (.int .i64 (.lit 1))))),
 (oT 6 (iMov (.t 20)))]))))))
 (cSeq (cOps [(oF 30 (iMov (.t 5))),
 (oT 4 (iMov (.t 30)))])
 cRet)))), [.t 4]⟩
def Tryd.kp30 : List Nat := [0, 1, 2, 3, 6, 7, 8, 9, 16, 27]
def Tryd.cf30 : CF := ⟨3, (cSeq (cOps [(oT 3 (iBox 26 (.t 0))),
 (oT 6 (iAlloc 24 [(.int .i64 (.lit 0)), (.int .i64 (.lit 0))])),
 (oT 7 (iMov (.c (.int .i64 (.lit 0)))))])
 (cSeq (cOps [(oF 11 (iLoadN 6 (.t 3))),
 (oF 12 (iCall (.c (.func (.func 38) [] [])) [(.t 11)])),
 (oF 10 (iMov (.t 12))),
 (oF 13 (iExtract 0 (.t 10))),
 (oF 14 (iExtract 1 (.t 10))),
 (oT 8 (iAlloc 73 [.nilslice, (.int .i64 (.lit 0)), (.int .i64 (.lit 0)), (.int .i64 (.lit 0)), (.int .i64 (.lit 0)), (.int .i64 (.lit 0)), .nilmap])),
 (oN (iStore 7 (.t 8) (.t 13))),
 (oT 9 (iMov (.t 14)))])
 (cSeq (cSeq (cOps [(oF 15 (iMov (.t 9))),
 (oT 16 (iCmp .neq (.t 15) (.c (.int .i64 (.lit 0)))))])
 (cCond (.t 16) (cSeq (cOps [(oF 17 (iBuild [(.int .i64 (.lit 0)), (.int .i64 (.lit 0))] [])),
 (oF 18 (iMov (.t 9))),
 (oN (iStore 2 (.t 6) (.t 17))),
 (oT 7 (iMov (.t 18)))])
 cRet) cSkip))
 (cSeq (cSeq (cOps [(oF 19 (iLoadN 7 (.t 8))),
 (oF 20 (iMov (.t 1))),
 (oF 21 (iCall (.c (.func (.func 44) [] [])) [(.t 19), (.t 20)])),
 (oF 22 (iNot (.t 21))),
 (oF 23 (iMov (.t 22))),
 ⟨some 24, false, some (23, false), iMov (.t 2)⟩,
 ⟨some 25, false, some (23, false), iCall (.c (.func (.func 50) [] [])) [(.t 24)]⟩,
 ⟨some 26, false, some (23, false), iNot (.t 25)⟩,
 (oT 27 (iPick (.t 23) (.c (.bool (.lit true))) (.t 26)))])
 (cCond (.t 27) (cSeq (cOps [(oF 28 (iBuild [(.int .i64 (.lit 0)), (.int .i64 (.lit 0))] [])),
 (oN (iStore 2 (.t 6) (.t 28))),
 (oT 7 (iMov (.c (.int .i64 (.lit 11)))))])
 cRet) cSkip))
 (cSeq (cOps [(oF 29 (iLoadN 7 (.t 8))),
 (oF 30 (iMov (.t 1))),
 (oF 31 (iMov (.t 2))),
 (oF 32 (iCall (.c (.func (.func 51) [] [])) [(.t 29), (.t 30), (.t 31)])),
 (oN (iStore 2 (.t 6) (.t 32))),
 (oT 7 (iMov (.c (.int .i64 (.lit 0)))))])
 cRet))))), [.cell 6 true 2, .t 7]⟩
def Tryd.kp31 : List Nat := [0, 1, 2, 3, 6, 7, 8, 9, 10, 11, 18, 31, 41]
def Tryd.cf31 : CF := ⟨3, (cSeq (cOps [(oT 3 (iBox 26 (.t 0))),
 (oT 6 (iMov (.c (.int .i64 (.lit 0))))),
 (oT 7 (iMov (.c (.int .i64 (.lit 0))))),
 (oT 8 (iMov (.c (.int .i64 (.lit 0)))))])
 (cSeq (cOps [(oF 13 (iLoadN 6 (.t 3))),
 (oF 14 (iCall (.c (.func (.func 38) [] [])) [(.t 13)])),
 (oF 12 (iMov (.t 14))),
 (oF 15 (iExtract 0 (.t 12))),
 (oF 16 (iExtract 1 (.t 12))),
 (oT 9 (iAlloc 73 [.nilslice, (.int .i64 (.lit 0)), (.int .i64 (.lit 0)), (.int .i64 (.lit 0)), (.int .i64 (.lit 0)), (.int .i64 (.lit 0)), .nilmap])),
 (oN (iStore 7 (.t 9) (.t 15))),
 (oT 8 (iMov (.t 16)))])
 (cSeq (cSeq (cOps [(oF 17 (iMov (.t 8))),
 (oT 18 (iCmp .neq (.t 17) (.c (.int .i64 (.lit 0)))))])
 (cCond (.t 18) (cSeq (cOps [(oF 19 (iMov (.t 8))),
 (oT 6 (iMov (.c (.int .i64 (.lit 0))))),
 (oT 7 (iMov (.c (.int .i64 (.lit 0))))),
 (oT 8 (iMov (.t 19)))])
 cRet) cSkip))
 (cSeq (cSeq (cOps [(oF 20 (iLoadN 7 (.t 9))),
 (oF 21 (iMov (.t 1))),
 (oF 22 (iCall (.c (.func (.func 44) [] [])) [(.t 20), (.t 21)])),
 (oF 23 (iNot (.t 22))),
 (oF 24 (iMov (.t 23))),
 ⟨some 25, false, some (24, false), iMov (.t 2)⟩,
 ⟨some 26, false, some (24, false), iCmp .lss (.t 25) (.c (.int .i64 (.lit 1)))⟩,
 (oF 27 (iPick (.t 24) (.c (.bool (.lit true))) (.t 26))),
 (oF 28 (iMov (.t 27))),
 ⟨some 29, false, some (28, false), iMov (.t 2)⟩,
 ⟨some 30, false, some (28, false), iCmp .gtr (.t 29) (.c (.int .i64 (.lit 1200)))⟩,
 (oT 31 (iPick (.t 28) (.c (.bool (.lit true))) (.t 30)))])
 (cCond (.t 31) (cSeq (cOps [(oT 6 (iMov (.c (.int .i64 (.lit 0))))),
 (oT 7 (iMov (.c (.int .i64 (.lit 0))))),
 (oT 8 (iMov (.c (.int .i64 (.lit 11)))))])
 cRet) cSkip))
 (cSeq (cSeq (cOps [(oF 32 (iMov (.t 2))),
 (oF 33 (iFaddr 0 (.t 9))),
 (oF 34 (iFaddr 0 (.t 33))),
 (oF 35 (iLoad (.t 34))),
 (oF 36 (iMov (.t 1))),
 (oF 37 (iIaddr 6 (.t 35) (.t 36))),
 (oF 38 (iFaddr 4 (.t 37))),
 (oF 39 (iFaddr 1 (.t 38))),
 (oF 40 (iLoad (.t 39))),
 (oT 41 (iCmp .gtr (.t 32) (.t 40)))])
 (cCond (.t 41) (cSeq (cOps [(oT 6 (iMov (.c (.int .i64 (.lit 0))))),
 (oT 7 (iMov (.c (.int .i64 (.lit 0))))),
 (oT 8 (iMov (.c (.int .i64 (.lit 4)))))])
 cRet) cSkip))
 (cSeq (cOps [(oF 43 (iCall (.c (.func (.func 52) [] [])) [])),
 (oF 42 (iMov (.t 43))),
 (oF 44 (iExtract 0 (.t 42))),
 (oF 45 (iExtract 1 (.t 42))),
 (oT 10 (iAlloc 90 [.nilFunc, .nilFunc])),
 (oT 11 (iAlloc 90 [.nilFunc, .nilFunc])),
 (oN (iStore 2 (.t 10) (.t 44))),
 (oN (iStore 2 (.t 11) (.t 45)))])
 (cSeq (dOps 0 [⟨(oF 46 (iLoadN 7 (.t 9))), [9], false, 0, 0, none, []⟩,
 ⟨(oF 47 (iMov (.t 1))), [1], false, 0, 0, none, []⟩,
 ⟨(oF 48 (iMov (.t 2))), [2], false, 0, 0, none, []⟩,
 ⟨(oF 49 (iLoadN 2 (.t 10))), [10], false, 0, 0, none, []⟩,
 ⟨(oF 50 (iCall (.c (.func (.func 53) [] [])) [(.t 46), (.t 47), (.t 48), (.t 49)])), [46, 47, 48, 49], true, 0, 0, none, []⟩,
 ⟨(oF 51 (iLoadN 7 (.t 9))), [9], false, 0, 1, none, []⟩,
 ⟨(oF 52 (iMov (.t 1))), [1], false, 0, 1, none, []⟩,
 ⟨(oF 53 (iMov (.t 2))), [2], false, 0, 1, none, []⟩,
 ⟨(oF 54 (iLoadN 2 (.t 11))), [11], false, 0, 1, none, []⟩,
 ⟨(oF 55 (iCall (.c (.func (.func 53) [] [])) [(.t 51), (.t 52), (.t 53), (.t 54)])), [51, 52, 53, 54], true, 1, 0, none, []⟩,
 ⟨(oT 6 (iMov (.t 50))), [50], false, 2, 2, none, []⟩,
 ⟨(oT 7 (iMov (.t 55))), [55], false, 2, 2, none, []⟩,
 ⟨(oT 8 (iMov (.c (.int .i64 (.lit 0))))), [], false, 2, 2, none, []⟩])
 cRet))))))), [.t 6, .t 7, .t 8]⟩
def Tryd.kp32 : List Nat := [0, 1, 2, 3, 6, 7, 8, 9, 10, 11, 18, 32, 42]
def Tryd.cf32 : CF := ⟨3, (cSeq (cOps [(oT 3 (iBox 26 (.t 0))),
 (oT 6 (iAlloc 24 [(.int .i64 (.lit 0)), (.int .i64 (.lit 0))])),
 (oT 7 (iMov (.c (.int .i64 (.lit 0)))))])
 (cSeq (cOps [(oF 13 (iLoadN 6 (.t 3))),
 (oF 14 (iCall (.c (.func (.func 38) [] [])) [(.t 13)])),
 (oF 12 (iMov (.t 14))),
 (oF 15 (iExtract 0 (.t 12))),
 (oF 16 (iExtract 1 (.t 12))),
 (oT 8 (iAlloc 73 [.nilslice, (.int .i64 (.lit 0)), (.int .i64 (.lit 0)), (.int .i64 (.lit 0)), (.int .i64 (.lit 0)), (.int .i64 (.lit 0)), .nilmap])),
 (oN (iStore 7 (.t 8) (.t 15))),
 (oT 9 (iMov (.t 16)))])
 (cSeq (cSeq (cOps [(oF 17 (iMov (.t 9))),
 (oT 18 (iCmp .neq (.t 17) (.c (.int .i64 (.lit 0)))))])
 (cCond (.t 18) (cSeq (cOps [(oF 19 (iBuild [(.int .i64 (.lit 0)), (.int .i64 (.lit 0))] [])),
 (oF 20 (iMov (.t 9))),
 (oN (iStore 2 (.t 6) (.t 19))),
 (oT 7 (iMov (.t 20)))])
 cRet) cSkip))
 (cSeq (cSeq (cOps [(oF 21 (iLoadN 7 (.t 8))),
 (oF 22 (iMov (.t 1))),
 (oF 23 (iCall (.c (.func (.func 44) [] [])) [(.t 21), (.t 22)])),
 (oF 24 (iNot (.t 23))),
 (oF 25 (iMov (.t 24))),
 ⟨some 26, false, some (25, false), iMov (.t 2)⟩,
 ⟨some 27, false, some (25, false), iCmp .lss (.t 26) (.c (.int .i64 (.lit 0)))⟩,
 (oF 28 (iPick (.t 25) (.c (.bool (.lit true))) (.t 27))),
 (oF 29 (iMov (.t 28))),
 ⟨some 30, false, some (29, false), iMov (.t 2)⟩,
 ⟨some 31, false, some (29, false), iCmp .gtr (.t 30) (.c (.int .i64 (.lit 1200)))⟩,
 (oT 32 (iPick (.t 29) (.c (.bool (.lit true))) (.t 31)))])
 (cCond (.t 32) (cSeq (cOps [(oF 33 (iBuild [(.int .i64 (.lit 0)), (.int .i64 (.lit 0))] [])),
 (oN (iStore 2 (.t 6) (.t 33))),
 (oT 7 (iMov (.c (.int .i64 (.lit 11)))))])
 cRet) cSkip))
 (cSeq (cOps [(oF 35 (iLoadN 7 (.t 8))),
 (oF 36 (iMov (.t 1))),
 (oF 37 (iMov (.t 2))),
 (oF 38 (iCall (.c (.func (.func 54) [] [])) [(.t 35), (.t 36), (.t 37)])),
 (oF 34 (iMov (.t 38))),
 (oF 39 (iExtract 0 (.t 34))),
 (oF 40 (iExtract 1 (.t 34))),
 (oT 10 (iAlloc 24 [(.int .i64 (.lit 0)), (.int .i64 (.lit 0))])),
 (oN (iStore 2 (.t 10) (.t 39))),
 (oT 11 (iMov (.t 40)))])
 (cSeq (cSeq (cOps [(oF 41 (iMov (.t 11))),
 (oT 42 (iNot (.t 41)))])
 (cCond (.t 42) (cSeq (cOps [(oF 43 (iBuild [(.int .i64 (.lit 0)), (.int .i64 (.lit 0))] [])),
 (oN (iStore 2 (.t 6) (.t 43))),
 (oT 7 (iMov (.c (.int .i64 (.lit 4)))))])
 cRet) cSkip))
 (cSeq (cOps [(oF 44 (iLoadN 2 (.t 10))),
 (oN (iStore 2 (.t 6) (.t 44))),
 (oT 7 (iMov (.c (.int .i64 (.lit 0)))))])
 cRet))))))), [.cell 6 true 2, .t 7]⟩
def Tryd.kp33 : List Nat := [0, 1, 2, 3, 6, 7, 8, 9, 16, 27]
def Tryd.cf33 : CF := ⟨3, (cSeq (cOps [(oT 3 (iBox 26 (.t 0))),
 (oT 6 (iAlloc 24 [(.int .i64 (.lit 0)), (.int .i64 (.lit 0))])),
 (oT 7 (iMov (.c (.int .i64 (.lit 0)))))])
 (cSeq (cOps [(oF 11 (iLoadN 6 (.t 3))),
 (oF 12 (iCall (.c (.func (.func 38) [] [])) [(.t 11)])),
 (oF 10 (iMov (.t 12))),
 (oF 13 (iExtract 0 (.t 10))),
 (oF 14 (iExtract 1 (.t 10))),
 (oT 8 (iAlloc 73 [.nilslice, (.int .i64 (.lit 0)), (.int .i64 (.lit 0)), (.int .i64 (.lit 0)), (.int .i64 (.lit 0)), (.int .i64 (.lit 0)), .nilmap])),
 (oN (iStore 7 (.t 8) (.t 13))),
 (oT 9 (iMov (.t 14)))])
 (cSeq (cSeq (cOps [(oF 15 (iMov (.t 9))),
 (oT 16 (iCmp .neq (.t 15) (.c (.int .i64 (.lit 0)))))])
 (cCond (.t 16) (cSeq (cOps [(oF 17 (iBuild [(.int .i64 (.lit 0)), (.int .i64 (.lit 0))] [])),
 (oF 18 (iMov (.t 9))),
 (oN (iStore 2 (.t 6) (.t 17))),
 (oT 7 (iMov (.t 18)))])
 cRet) cSkip))
 (cSeq (cSeq (cOps [(oF 19 (iLoadN 7 (.t 8))),
 (oF 20 (iMov (.t 1))),
 (oF 21 (iCall (.c (.func (.func 55) [] [])) [(.t 19), (.t 20)])),
 (oF 22 (iNot (.t 21))),
 (oF 23 (iMov (.t 22))),
 ⟨some 24, false, some (23, false), iMov (.t 2)⟩,
 ⟨some 25, false, some (23, false), iCall (.c (.func (.func 50) [] [])) [(.t 24)]⟩,
 ⟨some 26, false, some (23, false), iNot (.t 25)⟩,
 (oT 27 (iPick (.t 23) (.c (.bool (.lit true))) (.t 26)))])
 (cCond (.t 27) (cSeq (cOps [(oF 28 (iBuild [(.int .i64 (.lit 0)), (.int .i64 (.lit 0))] [])),
 (oN (iStore 2 (.t 6) (.t 28))),
 (oT 7 (iMov (.c (.int .i64 (.lit 11)))))])
 cRet) cSkip))
 (cSeq (cOps [(oF 29 (iLoadN 7 (.t 8))),
 (oF 30 (iMov (.t 1))),
 (oF 31 (iMov (.t 2))),
 (oF 32 (iCall (.c (.func (.func 56) [] [])) [(.t 29), (.t 30), (.t 31)])),
 (oN (iStore 2 (.t 6) (.t 32))),
 (oT 7 (iMov (.c (.int .i64 (.lit 0)))))])
 cRet))))), [.cell 6 true 2, .t 7]⟩
def Tryd.kp34 : List Nat := [0, 1, 2, 3, 6, 7, 8, 9, 16, 26]
def Tryd.cf34 : CF := ⟨3, (cSeq (cOps [(oT 3 (iBox 26 (.t 0))),
 (oT 6 (iMov (.c .nilslice))),
 (oT 7 (iMov (.c (.int .i64 (.lit 0)))))])
 (cSeq (cOps [(oF 11 (iLoadN 6 (.t 3))),
 (oF 12 (iCall (.c (.func (.func 38) [] [])) [(.t 11)])),
 (oF 10 (iMov (.t 12))),
 (oF 13 (iExtract 0 (.t 10))),
 (oF 14 (iExtract 1 (.t 10))),
 (oT 8 (iAlloc 73 [.nilslice, (.int .i64 (.lit 0)), (.int .i64 (.lit 0)), (.int .i64 (.lit 0)), (.int .i64 (.lit 0)), (.int .i64 (.lit 0)), .nilmap])),
 (oN (iStore 7 (.t 8) (.t 13))),
 (oT 9 (iMov (.t 14)))])
 (cSeq (cSeq (cOps [(oF 15 (iMov (.t 9))),
 (oT 16 (iCmp .neq (.t 15) (.c (.int .i64 (.lit 0)))))])
 (cCond (.t 16) (cSeq (cOps [(oF 17 (iMov (.t 9))),
 (oT 6 (iMov (.c .nilslice))),
 (oT 7 (iMov (.t 17)))])
 cRet) cSkip))
 (cSeq (cSeq (cOps [(oF 18 (iLoadN 7 (.t 8))),
 (oF 19 (iMov (.t 1))),
 (oF 20 (iCall (.c (.func (.func 39) [] [])) [(.t 18), (.t 19)])),
 (oF 21 (iNot (.t 20))),
 (oF 22 (iMov (.t 21))),
 ⟨some 23, false, some (22, false), iMov (.t 2)⟩,
 ⟨some 24, false, some (22, false), iCall (.c (.func (.func 50) [] [])) [(.t 23)]⟩,
 ⟨some 25, false, some (22, false), iNot (.t 24)⟩,
 (oT 26 (iPick (.t 22) (.c (.bool (.lit true))) (.t 25)))])
 (cCond (.t 26) (cSeq (cOps [(oT 6 (iMov (.c .nilslice))),
 (oT 7 (iMov (.c (.int .i64 (.lit 11)))))])
 cRet) cSkip))
 (cSeq (cOps [(oF 27 (iLoadN 7 (.t 8))),
 (oF 28 (iMov (.t 1))),
 (oF 29 (iMov (.t 2))),
 (oF 30 (iCall (.c (.func (.func 57) [] [])) [(.t 27), (.t 28), (.t 29)])),
 (oF 31 (iExtract 0 (.t 30))),
 (oF 32 (iExtract 1 (.t 30))),
 (oT 6 (iMov (.t 31))),
 (oT 7 (iMov (.t 32)))])
 cRet))))), [.t 6, .t 7]⟩
def Tryd.kp35 : List Nat := [0, 1, 2, 3, 6, 7, 8, 9, 10, 17, 27, 36]
def Tryd.cf35 : CF := ⟨3, (cSeq (cOps [(oT 3 (iBox 26 (.t 0))),
 (oT 6 (iMov (.c .nilslice))),
 (oT 7 (iMov (.c (.int .i64 (.lit 0)))))])
 (cSeq (cOps [(oF 12 (iLoadN 6 (.t 3))),
 (oF 13 (iCall (.c (.func (.func 38) [] [])) [(.t 12)])),
 (oF 11 (iMov (.t 13))),
 (oF 14 (iExtract 0 (.t 11))),
 (oF 15 (iExtract 1 (.t 11))),
 (oT 8 (iAlloc 73 [.nilslice, (.int .i64 (.lit 0)), (.int .i64 (.lit 0)), (.int .i64 (.lit 0)), (.int .i64 (.lit 0)), (.int .i64 (.lit 0)), .nilmap])),
 (oN (iStore 7 (.t 8) (.t 14))),
 (oT 9 (iMov (.t 15)))])
 (cSeq (cSeq (cOps [(oF 16 (iMov (.t 9))),
 (oT 17 (iCmp .neq (.t 16) (.c (.int .i64 (.lit 0)))))])
 (cCond (.t 17) (cSeq (cOps [(oF 18 (iMov (.t 9))),
 (oT 6 (iMov (.c .nilslice))),
 (oT 7 (iMov (.t 18)))])
 cRet) cSkip))
 (cSeq (cSeq (cOps [(oF 19 (iLoadN 7 (.t 8))),
 (oF 20 (iMov (.t 1))),
 (oF 21 (iCall (.c (.func (.func 39) [] [])) [(.t 19), (.t 20)])),
 (oF 22 (iNot (.t 21))),
 (oF 23 (iMov (.t 22))),
 ⟨some 24, false, some (23, false), iMov (.t 2)⟩,
 ⟨some 25, false, some (23, false), iCall (.c (.func (.func 50) [] [])) [(.t 24)]⟩,
 ⟨some 26, false, some (23, false), iNot (.t 25)⟩,
 (oT 27 (iPick (.t 23) (.c (.bool (.lit true))) (.t 26)))])
 (cCond (.t 27) (cSeq (cOps [(oT 6 (iMov (.c .nilslice))),
 (oT 7 (iMov (.c (.int .i64 (.lit 11)))))])
 cRet) cSkip))
 (cSeq (cOps [(oF 29 (iLoadN 7 (.t 8))),
 (oF 30 (iMov (.t 1))),
 (oF 31 (iMov (.t 2))),
 (oF 32 (iCall (.c (.func (.func 57) [] [])) [(.t 29), (.t 30), (.t 31)])),
 (oF 28 (iMov (.t 32))),
 (oF 33 (iExtract 0 (.t 28))),
 (oF 34 (iExtract 1 (.t 28))),
 (oT 10 (iMov (.t 33))),
 (oT 9 (iMov (.t 34)))])
 (cSeq (cSeq (cOps [(oF 35 (iMov (.t 9))),
 (oT 36 (iCmp .neq (.t 35) (.c (.int .i64 (.lit 0)))))])
 (cCond (.t 36) (cSeq (cOps [(oF 37 (iMov (.t 9))),
 (oT 6 (iMov (.c .nilslice))),
 (oT 7 (iMov (.t 37)))])
 cRet) cSkip))
 (cSeq (cOps [(oF 38 (iLoadN 7 (.t 8))),
 (oF 39 (iMov (.t 1))),
 (oF 40 (iMov (.t 10))),
 (oF 41 (iMov (.t 2))),
 (oF 42 (iCall (.c (.func (.func 58) [] [])) [(.t 38), (.t 39), (.t 40), (.t 41)])),
 (oT 6 (iMov (.t 42))),
 (oT 7 (iMov (.c (.int .i64 (.lit 0)))))])
 cRet))))))), [.t 6, .t 7]⟩
def Tryd.kp36 : List Nat := [0, 1, 4, 5, 6, 18]
def Tryd.cf36 : CF := ⟨2, (cSeq (cOps [(oT 4 (iMov (.c (.bool (.lit false)))))])
 (cSeq (cOps [(oF 7 (iMov (.t 0))),
 (oF 8 (iLenS (.t 7))),
 (oF 9 (iMov (.t 1))),
 (oF 10 (iLenS (.t 9))),
 (oF 11 (iCmp .eql (.t 8) (.t 10))),
 (oT 5 (iMov (.t 11)))])
 (cSeq (cSeq (cOps [(oT 6 (iMov (.c (.int .i64 (.lit 0)))))])
 (cBlock 0 (cLoop (cSeq (cSeq (cOps [(oF 12 (iMov (.t 5))),
 (oF 13 (iMov (.t 12))),
 ⟨some 14, false, some (13, true), iMov (.t 6)⟩,
 ⟨some 15, false, some (13, true), iMov (.t 0)⟩,
 ⟨some 16, false, some (13, true), iLenS (.t 15)⟩,
 ⟨some 17, false, some (13, true), iCmp .lss (.t 14) (.t 16)⟩,
 (oT 18 (iPick (.t 13) (.t 17) (.c (.bool (.lit false)))))])
 (cCond (.t 18) cSkip (cExit 0)))
 (cSeq (cBlock 1 (dOps 0 [⟨(oF 21 (iMov (.t 0))), [0], false, 0, 0, none, []⟩,
 ⟨(oF 22 (iMov (.t 6))), [6], false, 0, 0, none, []⟩,
 ⟨(oF 23 (iIaddr 2 (.t 21) (.t 22))), [21, 22], false, 0, 0, none, []⟩,
 ⟨(oF 24 (iLoadN 2 (.t 23))), [23], false, 0, 0, none, []⟩,
 ⟨(oF 25 (iMov (.t 1))), [1], false, 0, 0, none, []⟩,
 ⟨(oF 26 (iMov (.t 6))), [6], false, 0, 0, none, []⟩,
 ⟨(oF 27 (iIaddr 2 (.t 25) (.t 26))), [25, 26], false, 0, 0, none, []⟩,
 ⟨(oF 28 (iLoadN 2 (.t 27))), [27], false, 0, 0, none, []⟩,
 ⟨(oF 29 (iEq false true 2 [(0, .int), (1, .int)] (.t 24) (.t 28))), [24, 28], false, 0, 0, none, []⟩,
 ⟨(oT 5 (iMov (.t 29))), [29], false, 0, 0, none, []⟩]))
 (cOps [(oF 19 (iMov (.t 6))),
 (oF 20 (iArith .add (.t 19) (.c (.int .i64 (.lit 1))))),
 (oT 6 (iMov (.t 20)))]))))))
 (cSeq (cOps [(oF 30 (iMov (.t 5))),
 (oT 4 (iMov (.t 30)))])
 cRet)))), [.t 4]⟩
def Tryd.kp37 : List Nat := [0, 1, 4, 7]
def Tryd.cf37 : CF := ⟨2, (cSeq (cOps [(oT 4 (iMov (.c (.int .i64 (.lit 0)))))])
 (cSeq (cSeq (cOps [(oF 5 (iMov (.t 0))),
 (oF 6 (iLenS (.t 5))),
 (oT 7 (iCmp .eql (.t 6) (.c (.int .i64 (.lit 0)))))])
 (cCond (.t 7) (cSeq (cOps [(oT 4 (iMov (.c (.int .i64 (.lit 0)))))])
 cRet) cSkip))
 (cSeq (cOps [(oF 8 (iMov (.t 0))),
 (oF 9 (iMov (.t 1))),
 (oF 10 (iMov (.t 0))),
 (oF 11 (iLenS (.t 10))),
 (oF 12 (iCall (.c (.func (.func 18) [] [])) [(.t 9), (.t 11)])),
 (oF 13 (iIaddr 1 (.t 8) (.t 12))),
 (oF 14 (iLoad (.t 13))),
 (oT 4 (iMov (.t 14)))])
 cRet))), [.t 4]⟩
def Tryd.kp38 : List Nat := [0, 1, 2, 3, 4, 8]
def Tryd.cf38 : CF := ⟨1, (cSeq (cOps [(oT 1 (iBox 26 (.t 0))),
 (oT 2 (iAlloc 73 [.nilslice, (.int .i64 (.lit 0)), (.int .i64 (.lit 0)), (.int .i64 (.lit 0)), (.int .i64 (.lit 0)), (.int .i64 (.lit 0)), .nilmap])),
 (oT 3 (iMov (.c (.int .i64 (.lit 0)))))])
 (cSeq (cSeq (cOps [(oF 5 (iLoadN 6 (.t 1))),
 (oF 6 (iCall (.c (.func (.func 24) [] [])) [(.t 5)])),
 (oT 4 (iMov (.t 6)))])
 (cSeq (cOps [(oF 7 (iMov (.t 4))),
 (oT 8 (iCmp .neq (.t 7) (.c (.int .i64 (.lit 0)))))])
 (cCond (.t 8) (cSeq (cOps [(oF 9 (iBuild [.nilslice, (.int .i64 (.lit 0)), (.int .i64 (.lit 0)), (.int .i64 (.lit 0)), (.int .i64 (.lit 0)), (.int .i64 (.lit 0)), .nilmap] [])),
 (oF 10 (iMov (.t 4))),
 (oN (iStore 7 (.t 2) (.t 9))),
 (oT 3 (iMov (.t 10)))])
 cRet) cSkip)))
 (cSeq (cOps [(oF 11 (iLoadN 6 (.t 1))),
 (oF 12 (iMkmap)),
 (oF 13 (iBuild [.nilslice, (.int .i64 (.lit 0)), (.int .i64 (.lit 0)), (.int .i64 (.lit 0)), (.int .i64 (.lit 0)), (.int .i64 (.lit 0)), .nilmap] [(0, 6, (.t 11)), (6, 1, (.t 12))])),
 (oN (iStore 7 (.t 2) (.t 13))),
 (oT 3 (iMov (.c (.int .i64 (.lit 0)))))])
 cRet))), [.cell 2 true 7, .t 3]⟩
def Tryd.kp39 : List Nat := [0, 1, 2, 4]
def Tryd.cf39 : CF := ⟨2, (cSeq (cOps [(oT 2 (iBox 73 (.t 0))),
 (oT 4 (iMov (.c (.bool (.lit false)))))])
 (cSeq (cOps [(oF 5 (iMov (.t 1))),
 (oF 6 (iLenS (.t 5))),
 (oF 7 (iCmp .gtr (.t 6) (.c (.int .i64 (.lit 0))))),
 (oF 8 (iMov (.t 7))),
 ⟨some 9, false, some (8, true), iLoadN 7 (.t 2)⟩,
 ⟨some 10, false, some (8, true), iMov (.t 1)⟩,
 ⟨some 11, false, some (8, true), iCall (.c (.func (.func 55) [] [])) [(.t 9), (.t 10)]⟩,
 (oF 12 (iPick (.t 8) (.t 11) (.c (.bool (.lit false))))),
 (oT 4 (iMov (.t 12)))])
 cRet)), [.t 4]⟩
def Tryd.kp40 : List Nat := [0, 1, 2, 4, 5, 7, 9, 10, 11, 12, 22]
def Tryd.cf40 : CF := ⟨2, (cSeq (cOps [(oT 2 (iBox 73 (.t 0))),
 (oT 4 (iMov (.c (.bool (.lit false)))))])
 (cSeq (cOps [(oF 8 (iCall (.c (.func (.func 59) [] [])) [])),
 (oT 5 (iAlloc 100 [(.int .i64 (.lit 0)), (.int .i64 (.lit 0))])),
 (oN (iStore 2 (.t 5) (.t 8)))])
 (cSeq (cSeq (cOps [(oT 9 (iMov (.t 1))),
 (oT 10 (iLenS (.t 9))),
 (oT 11 (iMov (.c (.int .i64 (.lit 0)))))])
 (cBlock 0 (cLoop (cSeq (cOps [(oT 12 (iCmp .lss (.t 11) (.t 10)))])
 (cSeq (cCond (.t 12) cSkip (cExit 0))
 (cSeq (cBlock 1 (cSeq (cOps [(oF 13 (iIaddr 1 (.t 9) (.t 11))),
 (oF 14 (iLoad (.t 13))),
 (oT 7 (iMov (.t 14)))])
 (cSeq (cOps [(oF 15 (iLoadN 7 (.t 2))),
 (oF 16 (iMov (.t 7))),
 (oF 17 (iLoadN 2 (.t 5))),
 (oF 18 (iBuild [(.int .i64 (.lit 0)), (.int .i64 (.lit 0)), (.int .i64 (.lit 0))] [(0, 1, (.t 16)), (1, 2, (.t 17))])),
 (oF 19 (iCall (.c (.func (.func 60) [] [])) [(.t 15), (.t 18)])),
 (oN (iStore 2 (.t 5) (.t 19)))])
 (cSeq (cOps [(oF 20 (iLoadN 2 (.t 5))),
 (oF 21 (iBuild [(.int .i64 (.lit 0)), (.int .i64 (.lit 0))] [])),
 (oT 22 (iEq false true 2 [(0, .int), (1, .int)] (.t 20) (.t 21)))])
 (cCond (.t 22) (cSeq (cOps [(oT 4 (iMov (.c (.bool (.lit false)))))])
 cRet) cSkip)))))
 (cOps [(oF 23 (iArith .add (.t 11) (.c (.int .i64 (.lit 1))))),
 (oT 11 (iMov (.t 23)))])))))))
 (cSeq (cOps [(oT 4 (iMov (.c (.bool (.lit true)))))])
 cRet)))), [.t 4]⟩
def Tryd.kp41 : List Nat := [0, 1, 2]
def Tryd.cf41 : CF := ⟨1, (cSeq (cOps [(oT 1 (iBox 73 (.t 0))),
 (oT 2 (iMov (.c .nilFunc)))])
 (cSeq (dOps 0 [⟨(oF 3 (iLoadN 7 (.t 1))), [1], false, 0, 0, none, []⟩,
 ⟨(oF 4 (iCall (.c (.func (.func 62) [] [])) [(.t 3), (.c .nilslice)])), [3], true, 0, 0, none, []⟩,
 ⟨(oF 5 (iLoadN 7 (.t 1))), [1], false, 0, 1, none, []⟩,
 ⟨(oF 6 (iFunc (.func 60) [(.t 5)] [])), [5], false, 0, 1, none, []⟩,
 ⟨(oF 7 (iCall (.c (.func (.func 61) [] [])) [(.t 4), (.t 6)])), [4, 6], true, 1, 0, none, []⟩,
 ⟨(oT 2 (iMov (.t 7))), [7], false, 2, 2, none, []⟩])
 cRet)), [.t 2]⟩
def Tryd.kp42 : List Nat := [0, 2, 4]
def Tryd.cf42 : CF := ⟨1, (cSeq (cOps [(oT 2 (iMov (.c .nilslice)))])
 (cSeq (cSeq (cOps [(oF 3 (iMov (.t 0))),
 (oT 4 (iEq false false 1 [(0, .nilS)] (.t 3) (.c .nilslice)))])
 (cCond (.t 4) (cSeq (cOps [(oT 2 (iMov (.c .nilslice)))])
 cRet) cSkip))
 (cSeq (cOps [(oF 5 (iBslice 3 [(.int .i64 (.lit 0))] 0 [])),
 (oF 6 (iMov (.t 0))),
 (oF 7 (iAppend 3 1 8 (.t 5) (.t 6))),
 (oT 2 (iMov (.t 7)))])
 cRet))), [.t 2]⟩
def Tryd.ra43018 : C := (cOps [(oT 4 (iMov (.t 18)))])
def Tryd.rb43018 : C := (cBlock 3 (cSeq (dOps 0 [⟨(oF 19 (iLoadN 7 (.t 1))), [1], false, 0, 1, none, []⟩,
 ⟨(oF 20 (iLoadN 7 (.t 1))), [1], false, 0, 0, none, []⟩,
 ⟨(oF 21 (iMov (.t 4))), [4], false, 0, 0, none, []⟩,
 ⟨(oF 22 (iCall (.c (.func (.func 62) [] [])) [(.t 20), (.t 21)])), [20, 21], true, 0, 0, none, []⟩,
 ⟨(oT 23 (iCall (.c (.func (.func 64) [] [])) [(.t 19), (.t 22)])), [19, 22], true, 1, 0, none, []⟩])
 (cCond (.t 23) (cSeq (cOps [(oF 24 (iMov (.t 4))),
 (oF 25 (iCall (.c (.func (.func 42) [] [])) [(.t 24)])),
 (oN (iStore 1 (.t 2) (.t 25)))])
 cRet) cSkip)))
def Tryd.kp43 : List Nat := [0, 1, 2, 3, 4, 8, 9, 10, 17, 18, 23]
def Tryd.cf43 : CF := ⟨1, (cSeq (cOps [(oT 1 (iBox 73 (.t 0))),
 (oT 2 (iAlloc 27 [.nilslice]))])
 (cSeq (cSeq (cOps [(oF 5 (iFaddr 0 (.t 1))),
 (oF 6 (iFaddr 0 (.t 5))),
 (oF 7 (iLoad (.t 6))),
 (oT 8 (iLenS (.t 7))),
 (oT 9 (iMov (.c (.int .i64 (.lit 0)))))])
 (cBlock 0 (cLoop (cSeq (cOps [(oT 10 (iCmp .lss (.t 9) (.t 8)))])
 (cSeq (cCond (.t 10) cSkip (cExit 0))
 (cSeq (cBlock 1 (cSeq (cOps [(oF 11 (iMov (.t 9))),
 (oT 3 (iMov (.t 11)))])
 (cSeq (cOps [(oF 12 (iFaddr 0 (.t 1))),
 (oF 13 (iFaddr 0 (.t 12))),
 (oF 14 (iLoad (.t 13))),
 (oF 15 (iLenS (.t 14))),
 (oF 16 (iMov (.t 3))),
 (oT 17 (iCall (.c (.func (.func 63) [] [])) [(.t 15), (.t 16)]))])
 (cBlock 2 (cRange (.t 17) [18] 43018)))))
 (cOps [(oF 26 (iArith .add (.t 9) (.c (.int .i64 (.lit 1))))),
 (oT 9 (iMov (.t 26)))])))))))
 (cSeq (cOps [(oN (iStore 1 (.t 2) (.c .nilslice)))])
 cRet))), [.cell 2 false 1]⟩
def Tryd.kp44 : List Nat := [0, 1, 2, 4]
def Tryd.cf44 : CF := ⟨2, (cSeq (cOps [(oT 2 (iBox 73 (.t 0))),
 (oT 4 (iMov (.c (.bool (.lit false)))))])
 (cSeq (cOps [(oF 5 (iMov (.t 1))),
 (oF 6 (iCmp .geq (.t 5) (.c (.int .i64 (.lit 0))))),
 (oF 7 (iMov (.t 6))),
 ⟨some 8, false, some (7, true), iMov (.t 1)⟩,
 ⟨some 9, false, some (7, true), iFaddr 0 (.t 2)⟩,
 ⟨some 10, false, some (7, true), iFaddr 0 (.t 9)⟩,
 ⟨some 11, false, some (7, true), iLoad (.t 10)⟩,
 ⟨some 12, false, some (7, true), iLenS (.t 11)⟩,
 ⟨some 13, false, some (7, true), iCmp .lss (.t 8) (.t 12)⟩,
 (oF 14 (iPick (.t 7) (.t 13) (.c (.bool (.lit false))))),
 (oT 4 (iMov (.t 14)))])
 cRet)), [.t 4]⟩
def Tryd.ra45009 : C := (cOps [(oT 6 (iMov (.t 9)))])
def Tryd.rb45009 : C := (cBlock 1 (cOps [(oF 10 (iMov (.t 6))),
 (oF 11 (iLoad (.t 3))),
 (oF 12 (iCall (.c (.func (.func 65) [] [])) [(.t 10), (.t 11)])),
 (oF 13 (iIaddrA 1 6 (.t 5) (.t 12))),
 (oN (iStore 1 (.t 13) (.c (.bool (.lit true)))))]))
def Tryd.kp45 : List Nat := [0, 1, 2, 3, 4, 5, 6, 8, 9]
def Tryd.cf45 : CF := ⟨2, (cSeq (cOps [(oT 2 (iBox 73 (.t 0))),
 (oT 3 (iBox 3 (.t 1))),
 (oT 4 (iAlloc 84 [(.bool (.lit false)), (.bool (.lit false)), (.bool (.lit false)), (.bool (.lit false)), (.bool (.lit false)), (.bool (.lit false))]))])
 (cSeq (cOps [(oT 5 (iAlloc 84 [(.bool (.lit false)), (.bool (.lit false)), (.bool (.lit false)), (.bool (.lit false)), (.bool (.lit false)), (.bool (.lit false))]))])
 (cSeq (cSeq (cOps [(oF 7 (iLoadN 7 (.t 2))),
 (oT 8 (iCall (.c (.func (.func 41) [] [])) [(.t 7)]))])
 (cBlock 0 (cRange (.t 8) [9] 45009)))
 (cSeq (cOps [(oF 14 (iLoadN 6 (.t 5))),
 (oN (iStore 6 (.t 4) (.t 14)))])
 cRet)))), [.cell 4 true 6]⟩
def Tryd.kp46 : List Nat := [0, 1, 2, 3, 4, 5, 6, 10]
def Tryd.cf46 : CF := ⟨1, (cSeq (cOps [(oT 1 (iBox 84 (.t 0))),
 (oT 2 (iMov (.c .nilslice)))])
 (cSeq (cOps [(oT 3 (iMov (.c .nilslice)))])
 (cSeq (cSeq (cOps [(oT 5 (iMov (.c (.int .i64 (.lit 0)))))])
 (cBlock 0 (cLoop (cSeq (cOps [(oT 6 (iCmp .lss (.t 5) (.c (.int .i64 (.lit 6)))))])
 (cSeq (cCond (.t 6) cSkip (cExit 0))
 (cSeq (cBlock 1 (cSeq (cOps [(oF 7 (iMov (.t 5))),
 (oT 4 (iMov (.t 7)))])
 (cSeq (cOps [(oF 8 (iMov (.t 4))),
 (oF 9 (iIaddrA 1 6 (.t 1) (.t 8))),
 (oT 10 (iLoad (.t 9)))])
 (cCond (.t 10) (cOps [(oF 11 (iMov (.t 3))),
 (oF 12 (iMov (.t 4))),
 (oF 13 (iBslice 3 [(.int .i64 (.lit 0))] 1 [(0, 1, (.t 12))])),
 (oF 14 (iAppend 3 1 8 (.t 11) (.t 13))),
 (oT 3 (iMov (.t 14)))]) cSkip))))
 (cOps [(oF 15 (iArith .add (.t 5) (.c (.int .i64 (.lit 1))))),
 (oT 5 (iMov (.t 15)))])))))))
 (cSeq (cOps [(oF 16 (iMov (.t 3))),
 (oT 2 (iMov (.t 16)))])
 cRet)))), [.t 2]⟩
def Tryd.kp49 : List Nat := [0, 1, 2, 4, 5, 6, 16, 18, 19, 20, 21, 26, 32, 33, 34, 42]
def Tryd.cf49 : CF := ⟨1, (cSeq (cOps [(oT 1 (iBox 26 (.t 0))),
 (oT 2 (iMov (.c (.bool (.lit false)))))])
 (cSeq (cSeq (cOps [(oF 7 (iFaddr 0 (.t 1))),
 (oF 8 (iLoad (.t 7))),
 (oF 9 (iLenS (.t 8))),
 (oF 10 (iCmp .lss (.t 9) (.c (.int .i64 (.lit 1))))),
 (oF 11 (iMov (.t 10))),
 ⟨some 12, false, some (11, false), iFaddr 0 (.t 1)⟩,
 ⟨some 13, false, some (11, false), iLoad (.t 12)⟩,
 ⟨some 14, false, some (11, false), iLenS (.t 13)⟩,
 ⟨some 15, false, some (11, false), iCmp .gtr (.t 14) (.c (.int .i64 (.lit 6)))⟩,
 (oT 16 (iPick (.t 11) (.c (.bool (.lit true))) (.t 15)))])
 (cCond (.t 16) (cSeq (cOps [(oT 2 (iMov (.c (.bool (.lit false)))))])
 cRet) cSkip))
 (cSeq (cSeq (cOps [(oF 17 (iFaddr 0 (.t 1))),
 (oT 18 (iLoad (.t 17))),
 (oT 19 (iLenS (.t 18))),
 (oT 20 (iMov (.c (.int .i64 (.lit 0)))))])
 (cBlock 0 (cLoop (cSeq (cOps [(oT 21 (iCmp .lss (.t 20) (.t 19)))])
 (cSeq (cCond (.t 21) cSkip (cExit 0))
 (cSeq (cBlock 1 (cSeq (cOps [(oF 22 (iIaddr 6 (.t 18) (.t 20))),
 (oF 23 (iLoadN 6 (.t 22))),
 (oT 4 (iAlloc 53 [(.int .i64 (.lit 0)), (.int .i64 (.lit 0)), (.int .i64 (.lit 0)), (.int .i64 (.lit 0)), (.int .i64 (.lit 0)), (.int .i64 (.lit 0))])),
 (oN (iStore 6 (.t 4) (.t 23)))])
 (cSeq (cOps [(oF 24 (iLoadN 6 (.t 4))),
 (oF 25 (iCall (.c (.func (.func 66) [] [])) [(.t 24)])),
 (oT 26 (iNot (.t 25)))])
 (cCond (.t 26) (cSeq (cOps [(oT 2 (iMov (.c (.bool (.lit false)))))])
 cRet) cSkip))))
 (cOps [(oF 27 (iArith .add (.t 20) (.c (.int .i64 (.lit 1))))),
 (oT 20 (iMov (.t 27)))])))))))
 (cSeq (cSeq (cOps [(oF 28 (iFaddr 1 (.t 1))),
 (oF 29 (iLoadN 2 (.t 28))),
 (oF 30 (iFaddr 3 (.t 1))),
 (oF 31 (iLoadN 2 (.t 30))),
 (oT 32 (iBuild [(.int .i64 (.lit 0)), (.int .i64 (.lit 0)), (.int .i64 (.lit 0)), (.int .i64 (.lit 0))] [(0, 2, (.t 29)), (2, 2, (.t 31))])),
 (oT 33 (iMov (.c (.int .i64 (.lit 0)))))])
 (cBlock 2 (cLoop (cSeq (cOps [(oT 34 (iCmp .lss (.t 33) (.c (.int .i64 (.lit 2)))))])
 (cSeq (cCond (.t 34) cSkip (cExit 2))
 (cSeq (cBlock 3 (cSeq (cOps [(oF 35 (iMov (.t 33))),
 (oF 36 (iIndex true 2 2 (.t 32) (.t 33))),
 (oT 6 (iAlloc 24 [(.int .i64 (.lit 0)), (.int .i64 (.lit 0))])),
 (oT 5 (iMov (.t 35))),
 (oN (iStore 2 (.t 6) (.t 36)))])
 (cSeq (dOps 0 [⟨(oF 37 (iLoadN 2 (.t 6))), [6], false, 0, 0, none, []⟩,
 ⟨(oF 38 (iMov (.t 5))), [5], false, 0, 0, none, []⟩,
 ⟨(oF 39 (iIaddrA 2 2 (.c (.ptr 0 0)) (.t 38))), [38], false, 0, 0, none, []⟩,
 ⟨(oF 40 (iLoadN 2 (.t 39))), [39], false, 0, 0, none, []⟩,
 ⟨(oF 41 (iCall (.c (.func (.func 67) [] [])) [(.t 37), (.t 40)])), [37, 40], true, 0, 0, none, []⟩,
 ⟨(oT 42 (iNot (.t 41))), [41], false, 1, 1, none, []⟩])
 (cCond (.t 42) (cSeq (cOps [(oT 2 (iMov (.c (.bool (.lit false)))))])
 cRet) cSkip))))
 (cOps [(oF 43 (iArith .add (.t 33) (.c (.int .i64 (.lit 1))))),
 (oT 33 (iMov (.t 43)))])))))))
 (cSeq (cOps [(oF 44 (iFaddr 5 (.t 1))),
 (oF 45 (iLoad (.t 44))),
 (oF 46 (iCmp .geq (.t 45) (.c (.int .i64 (.lit 1))))),
 (oF 47 (iMov (.t 46))),
 ⟨some 48, false, some (47, true), iFaddr 5 (.t 1)⟩,
 ⟨some 49, false, some (47, true), iLoad (.t 48)⟩,
 ⟨some 50, false, some (47, true), iCmp .leq (.t 49) (.c (.int .i64 (.lit 6000)))⟩,
 (oF 51 (iPick (.t 47) (.t 50) (.c (.bool (.lit false))))),
 (oT 2 (iMov (.t 51)))])
 cRet))))), [.t 2]⟩
def Tryd.kp50 : List Nat := [0, 2]
def Tryd.cf50 : CF := ⟨1, (cSeq (cOps [(oT 2 (iMov (.c (.bool (.lit false)))))])
 (cSeq (cOps [(oF 3 (iMov (.t 0))),
 (oF 4 (iCmp .geq (.t 3) (.c (.int .i64 (.lit 0))))),
 (oF 5 (iMov (.t 4))),
 ⟨some 6, false, some (5, true), iMov (.t 0)⟩,
 ⟨some 7, false, some (5, true), iCmp .leq (.t 6) (.c (.int .i64 (.lit 999)))⟩,
 (oF 8 (iPick (.t 5) (.t 7) (.c (.bool (.lit false))))),
 (oT 2 (iMov (.t 8)))])
 cRet)), [.t 2]⟩
def Tryd.kp51 : List Nat := [0, 1, 2, 3, 4, 5, 6]
def Tryd.cf51 : CF := ⟨3, (cSeq (cOps [(oT 3 (iBox 73 (.t 0))),
 (oT 4 (iBox 3 (.t 1))),
 (oT 5 (iBox 3 (.t 2))),
 (oT 6 (iAlloc 24 [(.int .i64 (.lit 0)), (.int .i64 (.lit 0))]))])
 (cSeq (cOps [(oF 7 (iFunc (.func 69) [] [(.t 3), (.t 4), (.t 5)])),
 (oF 8 (iCall (.c (.func (.func 68) [] [])) [(.t 7)])),
 (oN (iStore 2 (.t 6) (.t 8)))])
 cRet)), [.cell 6 true 2]⟩
def Tryd.kp52 : List Nat := [0, 1, 2]
def Tryd.cf52 : CF := ⟨0, (cSeq (cOps [(oT 0 (iAlloc 90 [.nilFunc, .nilFunc])),
 (oT 1 (iAlloc 90 [.nilFunc, .nilFunc]))])
 (cSeq (cOps [(oF 3 (iBuild [.nilFunc, .nilFunc] [(0, 1, (.c (.func (.func 71) [] []))), (1, 1, (.c (.func (.func 72) [] [])))])),
 (oF 4 (iBuild [.nilFunc, .nilFunc] [(0, 1, (.c (.func (.func 72) [] []))), (1, 1, (.c (.func (.func 71) [] [])))])),
 (oF 5 (iBuild [.nilFunc, .nilFunc, .nilFunc, .nilFunc] [(0, 2, (.t 3)), (2, 2, (.t 4))])),
 (oT 2 (iAlloc 116 [.nilFunc, .nilFunc, .nilFunc, .nilFunc])),
 (oN (iStore 4 (.t 2) (.t 5)))])
 (cSeq (dOps 0 [⟨(oF 6 (iIaddrA 2 2 (.t 2) (.c (.int .i64 (.lit 0))))), [2], false, 0, 0, none, []⟩,
 ⟨(oF 7 (iLoadN 2 (.t 6))), [6], false, 0, 0, none, []⟩,
 ⟨(oF 8 (iIaddrA 2 2 (.t 2) (.c (.int .i64 (.lit 1))))), [2], false, 0, 1, none, []⟩,
 ⟨(oF 9 (iLoadN 2 (.t 8))), [8], false, 0, 1, none, []⟩,
 ⟨(oN (iStore 2 (.t 0) (.t 7))), [0, 7], true, 0, 0, none, []⟩,
 ⟨(oN (iStore 2 (.t 1) (.t 9))), [1, 9], true, 1, 0, none, []⟩])
 cRet))), [.cell 0 true 2, .cell 1 true 2]⟩
def Tryd.kp53 : List Nat := [0, 1, 2, 3, 4, 7, 8, 9, 10, 11, 19]
def Tryd.cf53 : CF := ⟨4, (cSeq (cOps [(oT 4 (iBox 73 (.t 0))),
 (oT 7 (iBox 90 (.t 3))),
 (oT 8 (iMov (.c (.int .i64 (.lit 0)))))])
 (cSeq (cSeq (cOps [(oT 10 (iMov (.c (.int .i64 (.lit 0)))))])
 (cBlock 0 (cLoop (cSeq (cOps [(oT 11 (iCmp .lss (.t 10) (.c (.int .i64 (.lit 1000)))))])
 (cSeq (cCond (.t 11) cSkip (cExit 0))
 (cSeq (cBlock 1 (cSeq (cOps [(oF 12 (iMov (.t 10))),
 (oT 9 (iMov (.t 12)))])
 (cSeq (cOps [(oF 13 (iLoadN 7 (.t 4))),
 (oF 14 (iMov (.t 1))),
 (oF 15 (iMov (.t 9))),
 (oF 16 (iLoadN 2 (.t 7))),
 (oF 17 (iCall (.c (.func (.func 70) [] [])) [(.t 13), (.t 14), (.t 15), (.t 16)])),
 (oF 18 (iMov (.t 2))),
 (oT 19 (iCmp .lss (.t 17) (.t 18)))])
 (cCond (.t 19) (cSeq (cOps [(oF 20 (iMov (.t 9))),
 (oF 21 (iArith .sub (.t 20) (.c (.int .i64 (.lit 1))))),
 (oT 8 (iMov (.t 21)))])
 cRet) cSkip))))
 (cOps [(oF 22 (iArith .add (.t 10) (.c (.int .i64 (.lit 1))))),
 (oT 10 (iMov (.t 22)))])))))))
 (cSeq (cOps [(oT 8 (iMov (.c (.int .i64 (.lit 999)))))])
 cRet))), [.t 8]⟩
def Tryd.kp54 : List Nat := [0, 1, 2, 3, 6, 7, 8, 9, 10, 11, 26, 28]
def Tryd.cf54 : CF := ⟨3, (cSeq (cOps [(oT 3 (iBox 73 (.t 0))),
 (oT 6 (iAlloc 24 [(.int .i64 (.lit 0)), (.int .i64 (.lit 0))])),
 (oT 7 (iMov (.c (.bool (.lit false)))))])
 (cSeq (cSeq (cOps [(oT 10 (iMov (.c (.int .i64 (.lit 0)))))])
 (cBlock 0 (cLoop (cSeq (cOps [(oT 11 (iCmp .lss (.t 10) (.c (.int .i64 (.lit 1000)))))])
 (cSeq (cCond (.t 11) cSkip (cExit 0))
 (cSeq (cBlock 1 (cSeq (cOps [(oF 12 (iMov (.t 10))),
 (oT 8 (iMov (.t 12)))])
 (cSeq (cOps [(oF 13 (iLoadN 7 (.t 3))),
 (oF 14 (iMov (.t 1))),
 (oF 15 (iMov (.t 8))),
 (oF 16 (iCall (.c (.func (.func 51) [] [])) [(.t 13), (.t 14), (.t 15)])),
 (oT 9 (iAlloc 24 [(.int .i64 (.lit 0)), (.int .i64 (.lit 0))])),
 (oN (iStore 2 (.t 9) (.t 16)))])
 (cSeq (cSeq (cOps [(oF 17 (iMov (.t 2))),
 (oF 18 (iFaddr 0 (.t 9))),
 (oF 19 (iLoad (.t 18))),
 (oF 20 (iCmp .lss (.t 17) (.t 19))),
 (oF 21 (iMov (.t 20))),
 ⟨some 22, false, some (21, false), iMov (.t 2)⟩,
 ⟨some 23, false, some (21, false), iFaddr 1 (.t 9)⟩,
 ⟨some 24, false, some (21, false), iLoad (.t 23)⟩,
 ⟨some 25, false, some (21, false), iCmp .gtr (.t 22) (.t 24)⟩,
 (oT 26 (iPick (.t 21) (.c (.bool (.lit true))) (.t 25)))])
 (cCond (.t 26) (cExit 1) cSkip))
 (cSeq (cSeq (cOps [(oF 27 (iMov (.t 7))),
 (oT 28 (iNot (.t 27)))])
 (cCond (.t 28) (cOps [(oF 29 (iMov (.t 8))),
 (oF 30 (iFaddr 0 (.t 6))),
 (oN (iStore 1 (.t 30) (.t 29)))]) cSkip))
 (cOps [(oF 31 (iMov (.t 8))),
 (oF 32 (iFaddr 1 (.t 6))),
 (oN (iStore 1 (.t 32) (.t 31))),
 (oT 7 (iMov (.c (.bool (.lit true)))))]))))))
 (cOps [(oF 33 (iArith .add (.t 10) (.c (.int .i64 (.lit 1))))),
 (oT 10 (iMov (.t 33)))])))))))
 (cSeq (cOps [(oF 34 (iLoadN 2 (.t 6))),
 (oF 35 (iMov (.t 7))),
 (oN (iStore 2 (.t 6) (.t 34))),
 (oT 7 (iMov (.t 35)))])
 cRet))), [.cell 6 true 2, .t 7]⟩
def Tryd.kp55 : List Nat := [0, 1, 2, 4, 5, 7, 8, 9, 10, 11, 22]
def Tryd.cf55 : CF := ⟨2, (cSeq (cOps [(oT 2 (iBox 73 (.t 0))),
 (oT 4 (iMov (.c (.bool (.lit false)))))])
 (cSeq (cOps [(oT 5 (iAlloc 84 [(.bool (.lit false)), (.bool (.lit false)), (.bool (.lit false)), (.bool (.lit false)), (.bool (.lit false)), (.bool (.lit false))]))])
 (cSeq (cSeq (cOps [(oT 8 (iMov (.t 1))),
 (oT 9 (iLenS (.t 8))),
 (oT 10 (iMov (.c (.int .i64 (.lit 0)))))])
 (cBlock 0 (cLoop (cSeq (cOps [(oT 11 (iCmp .lss (.t 10) (.t 9)))])
 (cSeq (cCond (.t 11) cSkip (cExit 0))
 (cSeq (cBlock 1 (cSeq (cOps [(oF 12 (iIaddr 1 (.t 8) (.t 10))),
 (oF 13 (iLoad (.t 12))),
 (oT 7 (iMov (.t 13)))])
 (cSeq (cSeq (cOps [(oF 14 (iLoadN 7 (.t 2))),
 (oF 15 (iMov (.t 7))),
 (oF 16 (iCall (.c (.func (.func 44) [] [])) [(.t 14), (.t 15)])),
 (oF 17 (iNot (.t 16))),
 (oF 18 (iMov (.t 17))),
 ⟨some 19, false, some (18, false), iMov (.t 7)⟩,
 ⟨some 20, false, some (18, false), iIaddrA 1 6 (.t 5) (.t 19)⟩,
 ⟨some 21, false, some (18, false), iLoad (.t 20)⟩,
 (oT 22 (iPick (.t 18) (.c (.bool (.lit true))) (.t 21)))])
 (cCond (.t 22) (cSeq (cOps [(oT 4 (iMov (.c (.bool (.lit false)))))])
 cRet) cSkip))
 (cOps [(oF 23 (iMov (.t 7))),
 (oF 24 (iIaddrA 1 6 (.t 5) (.t 23))),
 (oN (iStore 1 (.t 24) (.c (.bool (.lit true)))))]))))
 (cOps [(oF 25 (iArith .add (.t 10) (.c (.int .i64 (.lit 1))))),
 (oT 10 (iMov (.t 25)))])))))))
 (cSeq (cOps [(oT 4 (iMov (.c (.bool (.lit true)))))])
 cRet)))), [.t 4]⟩
def Tryd.kp56 : List Nat := [0, 1, 2, 3, 4, 5, 6]
def Tryd.cf56 : CF := ⟨3, (cSeq (cOps [(oT 3 (iBox 73 (.t 0))),
 (oT 4 (iBox 27 (.t 1))),
 (oT 5 (iBox 3 (.t 2))),
 (oT 6 (iAlloc 24 [(.int .i64 (.lit 0)), (.int .i64 (.lit 0))]))])
 (cSeq (cOps [(oF 7 (iFunc (.func 73) [] [(.t 4), (.t 3), (.t 5)])),
 (oF 8 (iCall (.c (.func (.func 68) [] [])) [(.t 7)])),
 (oN (iStore 2 (.t 6) (.t 8)))])
 cRet)), [.cell 6 true 2]⟩
def Tryd.kp57 : List Nat := [0, 1, 2, 3, 6, 7, 8, 9, 10, 11, 12, 13, 14, 15, 16, 29, 36]
def Tryd.cf57 : CF := ⟨3, (cSeq (cOps [(oT 3 (iBox 73 (.t 0))),
 (oT 6 (iMov (.c .nilslice))),
 (oT 7 (iMov (.c (.int .i64 (.lit 0)))))])
 (cSeq (cOps [(oT 8 (iMov (.c .nilslice)))])
 (cSeq (cOps [(oT 9 (iMov (.c (.int .i64 (.lit 0)))))])
 (cSeq (cSeq (cOps [(oT 13 (iMov (.t 1))),
 (oT 14 (iLenS (.t 13))),
 (oT 15 (iMov (.c (.int .i64 (.lit 0)))))])
 (cBlock 0 (cLoop (cSeq (cOps [(oT 16 (iCmp .lss (.t 15) (.t 14)))])
 (cSeq (cCond (.t 16) cSkip (cExit 0))
 (cSeq (cBlock 1 (cSeq (cOps [(oF 17 (iMov (.t 15))),
 (oF 18 (iIaddr 1 (.t 13) (.t 15))),
 (oF 19 (iLoad (.t 18))),
 (oT 10 (iMov (.t 17))),
 (oT 11 (iMov (.t 19)))])
 (cSeq (cOps [(oF 20 (iLoadN 7 (.t 3))),
 (oF 21 (iMov (.t 11))),
 (oF 22 (iMov (.t 2))),
 (oF 23 (iCall (.c (.func (.func 51) [] [])) [(.t 20), (.t 21), (.t 22)])),
 (oF 24 (iField false 1 1 (.t 23))),
 (oT 12 (iMov (.t 24)))])
 (cSeq (cSeq (cOps [(oF 25 (iMov (.t 12))),
 (oF 26 (iFaddr 0 (.t 3))),
 (oF 27 (iFaddr 5 (.t 26))),
 (oF 28 (iLoad (.t 27))),
 (oT 29 (iCmp .gtr (.t 25) (.t 28)))])
 (cCond (.t 29) (cSeq (cOps [(oT 6 (iMov (.c .nilslice))),
 (oT 7 (iMov (.c (.int .i64 (.lit 4)))))])
 cRet) cSkip))
 (cSeq (cSeq (cOps [(oF 30 (iMov (.t 10))),
 (oF 31 (iCmp .eql (.t 30) (.c (.int .i64 (.lit 0))))),
 (oF 32 (iMov (.t 31))),
 ⟨some 33, false, some (32, false), iMov (.t 12)⟩,
 ⟨some 34, false, some (32, false), iMov (.t 9)⟩,
 ⟨some 35, false, some (32, false), iCmp .gtr (.t 33) (.t 34)⟩,
 (oT 36 (iPick (.t 32) (.c (.bool (.lit true))) (.t 35)))])
 (cCond (.t 36) (cSeq (cOps [(oF 37 (iMov (.t 8))),
 (oF 38 (iBslice 3 [(.int .i64 (.lit 0))] 1 [(0, 1, (.c (.int .i64 (.lit 0))))])),
 (oF 39 (iAppend 3 1 8 (.t 37) (.t 38))),
 (oT 8 (iMov (.t 39)))])
 (cOps [(oF 40 (iFaddr 0 (.t 3))),
 (oF 41 (iFaddr 5 (.t 40))),
 (oF 42 (iLoad (.t 41))),
 (oT 9 (iMov (.t 42)))])) cSkip))
 (cSeq (cOps [(oF 43 (iMov (.t 8))),
 (oF 44 (iMov (.t 8))),
 (oF 45 (iLenS (.t 44))),
 (oF 46 (iArith .sub (.t 45) (.c (.int .i64 (.lit 1))))),
 (oF 47 (iIaddr 1 (.t 43) (.t 46))),
 (oF 48 (iLoad (.t 47))),
 (oF 49 (iArith .add (.t 48) (.c (.int .i64 (.lit 1))))),
 (oF 50 (iIaddr 1 (.t 43) (.t 46))),
 (oN (iStore 1 (.t 50) (.t 49)))])
 (cOps [(oF 51 (iMov (.t 9))),
 (oF 52 (iMov (.t 12))),
 (oF 53 (iArith .sub (.t 51) (.t 52))),
 (oT 9 (iMov (.t 53)))])))))))
 (cOps [(oF 54 (iArith .add (.t 15) (.c (.int .i64 (.lit 1))))),
 (oT 15 (iMov (.t 54)))])))))))
 (cSeq (cOps [(oF 55 (iMov (.t 8))),
 (oT 6 (iMov (.t 55))),
 (oT 7 (iMov (.c (.int .i64 (.lit 0)))))])
 cRet))))), [.t 6, .t 7]⟩
def Tryd.kp58 : List Nat := [0, 1, 2, 3, 4, 8, 9, 10, 12, 17, 18, 19, 20]
def Tryd.cf58 : CF := ⟨4, (cSeq (cOps [(oT 4 (iBox 73 (.t 0))),
 (oT 8 (iMov (.c .nilslice)))])
 (cSeq (cOps [(oT 9 (iMov (.c .nilslice)))])
 (cSeq (cOps [(oT 10 (iMov (.c (.int .i64 (.lit 0)))))])
 (cSeq (cSeq (cOps [(oF 13 (iMov (.t 2))),
 (oF 14 (iMov (.t 2))),
 (oF 15 (iLenS (.t 14))),
 (oF 16 (iArith .sub (.t 15) (.c (.int .i64 (.lit 1))))),
 (oT 17 (iSlice 1 (.t 13) none (some (.t 16)) none)),
 (oT 18 (iLenS (.t 17))),
 (oT 19 (iMov (.c (.int .i64 (.lit 0)))))])
 (cBlock 0 (cLoop (cSeq (cOps [(oT 20 (iCmp .lss (.t 19) (.t 18)))])
 (cSeq (cCond (.t 20) cSkip (cExit 0))
 (cSeq (cBlock 1 (cSeq (cOps [(oF 21 (iIaddr 1 (.t 17) (.t 19))),
 (oF 22 (iLoad (.t 21))),
 (oT 12 (iMov (.t 22)))])
 (cSeq (cOps [(oF 23 (iMov (.t 10))),
 (oF 24 (iMov (.t 12))),
 (oF 25 (iArith .add (.t 23) (.t 24))),
 (oT 10 (iMov (.t 25)))])
 (dOps 0 [⟨(oF 26 (iMov (.t 9))), [9], false, 0, 2, none, []⟩,
 ⟨(oF 27 (iLoadN 7 (.t 4))), [4], false, 0, 0, none, []⟩,
 ⟨(oF 28 (iMov (.t 1))), [1], false, 0, 0, none, []⟩,
 ⟨(oF 29 (iMov (.t 10))), [10], false, 0, 0, none, []⟩,
 ⟨(oF 30 (iMov (.t 10))), [10], false, 0, 0, none, []⟩,
 ⟨(oF 31 (iSlice 1 (.t 28) none (some (.t 29)) (some (.t 30)))), [28, 29, 30], false, 0, 0, none, []⟩,
 ⟨(oF 32 (iMov (.t 3))), [3], false, 0, 0, none, []⟩,
 ⟨(oF 33 (iCall (.c (.func (.func 56) [] [])) [(.t 27), (.t 31), (.t 32)])), [27, 31, 32], true, 0, 0, none, []⟩,
 ⟨(oF 34 (iBslice 24 [(.int .i64 (.lit 0)), (.int .i64 (.lit 0))] 1 [(0, 2, (.t 33))])), [33], true, 1, 0, none, []⟩,
 ⟨(oF 35 (iAppend 24 2 16 (.t 26) (.t 34))), [26, 34], true, 2, 0, none, []⟩,
 ⟨(oT 9 (iMov (.t 35))), [35], false, 3, 3, none, []⟩]))))
 (cOps [(oF 36 (iArith .add (.t 19) (.c (.int .i64 (.lit 1))))),
 (oT 19 (iMov (.t 36)))])))))))
 (cSeq (cOps [(oF 37 (iMov (.t 9))),
 (oT 8 (iMov (.t 37)))])
 cRet))))), [.t 8]⟩
def Tryd.kp59 : List Nat := [0]
def Tryd.cf59 : CF := ⟨0, (cSeq (cOps [(oT 0 (iAlloc 100 [(.int .i64 (.lit 0)), (.int .i64 (.lit 0))]))])
 (cSeq (cOps [(oF 1 (iBuild [(.int .i64 (.lit 0)), (.int .i64 (.lit 0))] [(0, 1, (.c (.int .i64 (.lit 0)))), (1, 1, (.c (.int .i64 (.lit 100))))])),
 (oN (iStore 2 (.t 0) (.t 1)))])
 cRet)), [.cell 0 true 2]⟩
def Tryd.kp60 : List Nat := [0, 1, 2, 3, 4, 5, 6, 7, 8, 9, 10, 18, 54]
def Tryd.cf60 : CF := ⟨2, (cSeq (cOps [(oT 2 (iBox 73 (.t 0))),
 (oT 3 (iBox 104 (.t 1))),
 (oT 4 (iAlloc 100 [(.int .i64 (.lit 0)), (.int .i64 (.lit 0))]))])
 (cSeq (cSeq (cOps [(oF 12 (iFaddr 6 (.t 2))),
 (oF 13 (iLoad (.t 12))),
 (oF 14 (iLoadN 3 (.t 3))),
 (oF 15 (iLookup (.agg [(.int .i64 (.lit 0)), (.int .i64 (.lit 0))]) true 3 [(0, .int), (1, .int), (2, .int)] true (.t 13) (.t 14))),
 (oF 11 (iMov (.t 15))),
 (oF 16 (iExtract 0 (.t 11))),
 (oF 17 (iExtract 1 (.t 11))),
 (oT 5 (iAlloc 100 [(.int .i64 (.lit 0)), (.int .i64 (.lit 0))])),
 (oN (iStore 2 (.t 5) (.t 16))),
 (oT 6 (iMov (.t 17)))])
 (cSeq (cOps [(oT 18 (iMov (.t 6)))])
 (cCond (.t 18) (cSeq (cOps [(oF 19 (iLoadN 2 (.t 5))),
 (oN (iStore 2 (.t 4) (.t 19)))])
 cRet) cSkip)))
 (cSeq (cOps [(oF 20 (iFaddr 0 (.t 2))),
 (oF 21 (iFaddr 0 (.t 20))),
 (oF 22 (iLoad (.t 21))),
 (oF 23 (iFaddr 0 (.t 3))),
 (oF 24 (iLoad (.t 23))),
 (oF 25 (iIaddr 6 (.t 22) (.t 24))),
 (oF 26 (iLoadN 6 (.t 25))),
 (oT 7 (iAlloc 53 [(.int .i64 (.lit 0)), (.int .i64 (.lit 0)), (.int .i64 (.lit 0)), (.int .i64 (.lit 0)), (.int .i64 (.lit 0)), (.int .i64 (.lit 0))])),
 (oN (iStore 6 (.t 7) (.t 26)))])
 (cSeq (cOps [(oF 27 (iFaddr 1 (.t 3))),
 (oF 28 (iFaddr 0 (.t 27))),
 (oF 29 (iLoad (.t 28))),
 (oF 30 (iFaddr 0 (.t 7))),
 (oF 31 (iFaddr 0 (.t 30))),
 (oF 32 (iLoad (.t 31))),
 (oF 33 (iMax [(.t 29), (.t 32)])),
 (oT 8 (iMov (.t 33)))])
 (cSeq (cOps [(oF 34 (iMov (.t 8))),
 (oF 35 (iFaddr 2 (.t 7))),
 (oF 36 (iFaddr 0 (.t 35))),
 (oF 37 (iLoad (.t 36))),
 (oF 38 (iMax [(.t 34), (.t 37)])),
 (oT 9 (iMov (.t 38)))])
 (cSeq (cOps [(oT 10 (iAlloc 100 [(.int .i64 (.lit 0)), (.int .i64 (.lit 0))]))])
 (cSeq (cSeq (cOps [(oF 39 (iMov (.t 8))),
 (oF 40 (iFaddr 1 (.t 3))),
 (oF 41 (iFaddr 1 (.t 40))),
 (oF 42 (iLoad (.t 41))),
 (oF 43 (iFaddr 0 (.t 7))),
 (oF 44 (iFaddr 1 (.t 43))),
 (oF 45 (iLoad (.t 44))),
 (oF 46 (iMin [(.t 42), (.t 45)])),
 (oF 47 (iCmp .leq (.t 39) (.t 46))),
 (oF 48 (iMov (.t 47))),
 ⟨some 49, false, some (48, true), iMov (.t 9)⟩,
 ⟨some 50, false, some (48, true), iFaddr 2 (.t 7)⟩,
 ⟨some 51, false, some (48, true), iFaddr 1 (.t 50)⟩,
 ⟨some 52, false, some (48, true), iLoad (.t 51)⟩,
 ⟨some 53, false, some (48, true), iCmp .leq (.t 49) (.t 52)⟩,
 (oT 54 (iPick (.t 48) (.t 53) (.c (.bool (.lit false)))))])
 (cCond (.t 54) (cOps [(oF 55 (iMov (.t 9))),
 (oF 56 (iFaddr 2 (.t 7))),
 (oF 57 (iFaddr 1 (.t 56))),
 (oF 58 (iLoad (.t 57))),
 (oF 59 (iArith .add (.t 58) (.c (.int .i64 (.lit 1))))),
 (oF 60 (iBuild [(.int .i64 (.lit 0)), (.int .i64 (.lit 0))] [(0, 1, (.t 55)), (1, 1, (.t 59))])),
 (oN (iStore 2 (.t 10) (.t 60)))]) cSkip))
 (cSeq (cOps [(oF 61 (iFaddr 6 (.t 2))),
 (oF 62 (iLoad (.t 61))),
 (oF 63 (iLoadN 3 (.t 3))),
 (oF 64 (iLoadN 2 (.t 10))),
 (oN (iMapset true 3 [(0, .int), (1, .int), (2, .int)] (.t 62) (.t 63) (.t 64)))])
 (cSeq (cOps [(oF 65 (iLoadN 2 (.t 10))),
 (oN (iStore 2 (.t 4) (.t 65)))])
 cRet))))))))), [.cell 4 true 2]⟩
def Tryd.kp61 : List Nat := [0, 1, 2, 3, 4]
def Tryd.cf61 : CF := ⟨2, (cSeq (cOps [(oT 2 (iBox 84 (.t 0))),
 (oT 3 (iBox 102 (.t 1))),
 (oT 4 (iMov (.c .nilFunc)))])
 (cSeq (cOps [(oF 5 (iFunc (.func 75) [] [(.t 3), (.t 2)])),
 (oT 4 (iMov (.t 5)))])
 cRet)), [.t 4]⟩
def Tryd.kp62 : List Nat := [0, 1, 2, 4, 5, 6, 10, 11, 12]
def Tryd.cf62 : CF := ⟨2, (cSeq (cOps [(oT 2 (iBox 73 (.t 0))),
 (oT 4 (iAlloc 84 [(.bool (.lit false)), (.bool (.lit false)), (.bool (.lit false)), (.bool (.lit false)), (.bool (.lit false)), (.bool (.lit false))]))])
 (cSeq (cOps [(oT 5 (iAlloc 84 [(.bool (.lit false)), (.bool (.lit false)), (.bool (.lit false)), (.bool (.lit false)), (.bool (.lit false)), (.bool (.lit false))]))])
 (cSeq (cSeq (cOps [(oF 7 (iFaddr 0 (.t 2))),
 (oF 8 (iFaddr 0 (.t 7))),
 (oF 9 (iLoad (.t 8))),
 (oT 10 (iLenS (.t 9))),
 (oT 11 (iMov (.c (.int .i64 (.lit 0)))))])
 (cBlock 0 (cLoop (cSeq (cOps [(oT 12 (iCmp .lss (.t 11) (.t 10)))])
 (cSeq (cCond (.t 12) cSkip (cExit 0))
 (cSeq (cBlock 1 (cSeq (cOps [(oF 13 (iMov (.t 11))),
 (oT 6 (iMov (.t 13)))])
 (cOps [(oF 14 (iMov (.t 6))),
 (oF 15 (iMov (.t 1))),
 (oF 16 (iMov (.t 6))),
 (oF 17 (iCall (.c (.func (.func 77) [] [])) [(.t 15), (.t 16)])),
 (oF 18 (iNot (.t 17))),
 (oF 19 (iIaddrA 1 6 (.t 5) (.t 14))),
 (oN (iStore 1 (.t 19) (.t 18)))])))
 (cOps [(oF 20 (iArith .add (.t 11) (.c (.int .i64 (.lit 1))))),
 (oT 11 (iMov (.t 20)))])))))))
 (cSeq (cOps [(oF 21 (iLoadN 6 (.t 5))),
 (oN (iStore 6 (.t 4) (.t 21)))])
 cRet)))), [.cell 4 true 6]⟩
def Tryd.kp63 : List Nat := [0, 1, 2, 3, 4]
def Tryd.cf63 : CF := ⟨2, (cSeq (cOps [(oT 2 (iBox 3 (.t 0))),
 (oT 3 (iBox 3 (.t 1))),
 (oT 4 (iMov (.c .nilFunc)))])
 (cSeq (cOps [(oF 5 (iFunc (.func 78) [] [(.t 3), (.t 2)])),
 (oT 4 (iMov (.t 5)))])
 cRet)), [.t 4]⟩
def Tryd.ra64009 : C := cSkip
def Tryd.rb64009 : C := (cBlock 1 (cSeq (cOps [(oN (iStore 1 (.t 4) (.c (.bool (.lit true)))))])
 cRet))
def Tryd.kp64 : List Nat := [0, 1, 2, 3, 4, 8, 9]
def Tryd.cf64 : CF := ⟨2, (cSeq (cOps [(oT 2 (iBox 73 (.t 0))),
 (oT 3 (iBox 84 (.t 1))),
 (oT 4 (iAlloc 4 [(.bool (.lit false))]))])
 (cSeq (cSeq (cOps [(oF 5 (iLoadN 6 (.t 3))),
 (oF 6 (iLoadN 7 (.t 2))),
 (oF 7 (iFunc (.func 60) [(.t 6)] [])),
 (oT 8 (iCall (.c (.func (.func 61) [] [])) [(.t 5), (.t 7)]))])
 (cBlock 0 (cRange (.t 8) [9] 64009)))
 (cSeq (cOps [(oN (iStore 1 (.t 4) (.c (.bool (.lit false)))))])
 cRet))), [.cell 4 false 1]⟩
def Tryd.kp65 : List Nat := [0, 1, 4, 5, 7, 8, 9, 16]
def Tryd.cf65 : CF := ⟨2, (cSeq (cOps [(oT 4 (iMov (.c (.int .i64 (.lit 0)))))])
 (cSeq (cSeq (cOps [(oF 6 (iMov (.t 0))),
 (oT 7 (iLenS (.t 6))),
 (oT 8 (iMov (.c (.int .i64 (.lit 0)))))])
 (cBlock 0 (cLoop (cSeq (cOps [(oT 9 (iCmp .lss (.t 8) (.t 7)))])
 (cSeq (cCond (.t 9) cSkip (cExit 0))
 (cSeq (cBlock 1 (cSeq (cOps [(oF 10 (iMov (.t 8))),
 (oT 5 (iMov (.t 10)))])
 (cSeq (cOps [(oF 11 (iMov (.t 1))),
 (oF 12 (iMov (.t 0))),
 (oF 13 (iMov (.t 5))),
 (oF 14 (iIaddr 1 (.t 12) (.t 13))),
 (oF 15 (iLoad (.t 14))),
 (oT 16 (iCmp .eql (.t 11) (.t 15)))])
 (cCond (.t 16) (cSeq (cOps [(oF 17 (iMov (.t 5))),
 (oT 4 (iMov (.t 17)))])
 cRet) cSkip))))
 (cOps [(oF 18 (iArith .add (.t 8) (.c (.int .i64 (.lit 1))))),
 (oT 8 (iMov (.t 18)))])))))))
 (cSeq (cOps [(oT 4 (iMov (.c (.int .i64 (.lit (-1))))))])
 cRet))), [.t 4]⟩
def Tryd.kp66 : List Nat := [0, 1, 2, 3, 4, 11, 12, 13, 21]
def Tryd.cf66 : CF := ⟨1, (cSeq (cOps [(oT 1 (iBox 53 (.t 0))),
 (oT 2 (iMov (.c (.bool (.lit false)))))])
 (cSeq (cSeq (cOps [(oF 5 (iFaddr 0 (.t 1))),
 (oF 6 (iLoadN 2 (.t 5))),
 (oF 7 (iFaddr 2 (.t 1))),
 (oF 8 (iLoadN 2 (.t 7))),
 (oF 9 (iFaddr 4 (.t 1))),
 (oF 10 (iLoadN 2 (.t 9))),
 (oT 11 (iBuild [(.int .i64 (.lit 0)), (.int .i64 (.lit 0)), (.int .i64 (.lit 0)), (.int .i64 (.lit 0)), (.int .i64 (.lit 0)), (.int .i64 (.lit 0))] [(0, 2, (.t 6)), (2, 2, (.t 8)), (4, 2, (.t 10))])),
 (oT 12 (iMov (.c (.int .i64 (.lit 0)))))])
 (cBlock 0 (cLoop (cSeq (cOps [(oT 13 (iCmp .lss (.t 12) (.c (.int .i64 (.lit 3)))))])
 (cSeq (cCond (.t 13) cSkip (cExit 0))
 (cSeq (cBlock 1 (cSeq (cOps [(oF 14 (iMov (.t 12))),
 (oF 15 (iIndex true 2 3 (.t 11) (.t 12))),
 (oT 4 (iAlloc 24 [(.int .i64 (.lit 0)), (.int .i64 (.lit 0))])),
 (oT 3 (iMov (.t 14))),
 (oN (iStore 2 (.t 4) (.t 15)))])
 (cSeq (dOps 0 [⟨(oF 16 (iLoadN 2 (.t 4))), [4], false, 0, 0, none, []⟩,
 ⟨(oF 17 (iMov (.t 3))), [3], false, 0, 0, none, []⟩,
 ⟨(oF 18 (iIaddrA 2 3 (.c (.ptr 1 0)) (.t 17))), [17], false, 0, 0, none, []⟩,
 ⟨(oF 19 (iLoadN 2 (.t 18))), [18], false, 0, 0, none, []⟩,
 ⟨(oF 20 (iCall (.c (.func (.func 67) [] [])) [(.t 16), (.t 19)])), [16, 19], true, 0, 0, none, []⟩,
 ⟨(oT 21 (iNot (.t 20))), [20], false, 1, 1, none, []⟩])
 (cCond (.t 21) (cSeq (cOps [(oT 2 (iMov (.c (.bool (.lit false)))))])
 cRet) cSkip))))
 (cOps [(oF 22 (iArith .add (.t 12) (.c (.int .i64 (.lit 1))))),
 (oT 12 (iMov (.t 22)))])))))))
 (cSeq (cOps [(oF 23 (iFaddr 0 (.t 1))),
 (oF 24 (iFaddr 0 (.t 23))),
 (oF 25 (iLoad (.t 24))),
 (oF 26 (iFaddr 2 (.t 1))),
 (oF 27 (iFaddr 1 (.t 26))),
 (oF 28 (iLoad (.t 27))),
 (oF 29 (iCmp .leq (.t 25) (.t 28))),
 (oT 2 (iMov (.t 29)))])
 cRet))), [.t 2]⟩
def Tryd.kp67 : List Nat := [0, 1, 2, 3, 4]
def Tryd.cf67 : CF := ⟨2, (cSeq (cOps [(oT 2 (iBox 24 (.t 0))),
 (oT 3 (iBox 24 (.t 1))),
 (oT 4 (iMov (.c (.bool (.lit false)))))])
 (cSeq (cOps [(oF 5 (iFaddr 0 (.t 3))),
 (oF 6 (iLoad (.t 5))),
 (oF 7 (iFaddr 0 (.t 2))),
 (oF 8 (iLoad (.t 7))),
 (oF 9 (iCmp .leq (.t 6) (.t 8))),
 (oF 10 (iMov (.t 9))),
 ⟨some 11, false, some (10, true), iFaddr 0 (.t 2)⟩,
 ⟨some 12, false, some (10, true), iLoad (.t 11)⟩,
 ⟨some 13, false, some (10, true), iFaddr 1 (.t 2)⟩,
 ⟨some 14, false, some (10, true), iLoad (.t 13)⟩,
 ⟨some 15, false, some (10, true), iCmp .leq (.t 12) (.t 14)⟩,
 (oF 16 (iPick (.t 10) (.t 15) (.c (.bool (.lit false))))),
 (oF 17 (iMov (.t 16))),
 ⟨some 18, false, some (17, true), iFaddr 1 (.t 2)⟩,
 ⟨some 19, false, some (17, true), iLoad (.t 18)⟩,
 ⟨some 20, false, some (17, true), iFaddr 1 (.t 3)⟩,
 ⟨some 21, false, some (17, true), iLoad (.t 20)⟩,
 ⟨some 22, false, some (17, true), iCmp .leq (.t 19) (.t 21)⟩,
 (oF 23 (iPick (.t 17) (.t 22) (.c (.bool (.lit false))))),
 (oT 4 (iMov (.t 23)))])
 cRet)), [.t 4]⟩
def Tryd.kp68 : List Nat := [0, 2, 3, 4]
def Tryd.cf68 : CF := ⟨1, (cSeq (cOps [(oT 2 (iAlloc 24 [(.int .i64 (.lit 0)), (.int .i64 (.lit 0))]))])
 (cSeq (cOps [(oF 6 (iCall (.c (.func (.func 52) [] [])) [])),
 (oF 5 (iMov (.t 6))),
 (oF 7 (iExtract 0 (.t 5))),
 (oF 8 (iExtract 1 (.t 5))),
 (oT 3 (iAlloc 90 [.nilFunc, .nilFunc])),
 (oT 4 (iAlloc 90 [.nilFunc, .nilFunc])),
 (oN (iStore 2 (.t 3) (.t 7))),
 (oN (iStore 2 (.t 4) (.t 8)))])
 (cSeq (dOps 0 [⟨(oF 9 (iMov (.t 0))), [0], false, 0, 0, none, []⟩,
 ⟨(oF 10 (iLoadN 2 (.t 3))), [3], false, 0, 0, none, []⟩,
 ⟨(oF 11 (iCall (.t 9) [(.t 10)])), [9, 10], true, 0, 0, none, []⟩,
 ⟨(oF 12 (iMov (.t 0))), [0], false, 0, 1, none, []⟩,
 ⟨(oF 13 (iLoadN 2 (.t 4))), [4], false, 0, 1, none, []⟩,
 ⟨(oF 14 (iCall (.t 12) [(.t 13)])), [12, 13], true, 1, 0, none, []⟩,
 ⟨(oF 15 (iBuild [(.int .i64 (.lit 0)), (.int .i64 (.lit 0))] [(0, 1, (.t 11)), (1, 1, (.t 14))])), [11, 14], false, 2, 2, none, []⟩,
 ⟨(oN (iStore 2 (.t 2) (.t 15))), [2, 15], true, 2, 0, none, []⟩])
 cRet))), [.cell 2 true 2]⟩
def Tryd.kp69 : List Nat := [0, 1, 2, 3, 4, 5]
def Tryd.cf69 : CF := ⟨4, (cSeq (cOps [(oT 4 (iBox 90 (.t 0))),
 (oT 5 (iMov (.c (.int .i64 (.lit 0)))))])
 (cSeq (cOps [(oF 6 (iLoadN 7 (.t 1))),
 (oF 7 (iLoad (.t 2))),
 (oF 8 (iLoad (.t 3))),
 (oF 9 (iLoadN 2 (.t 4))),
 (oF 10 (iCall (.c (.func (.func 70) [] [])) [(.t 6), (.t 7), (.t 8), (.t 9)])),
 (oT 5 (iMov (.t 10)))])
 cRet)), [.t 5]⟩
def Tryd.kp70 : List Nat := [0, 1, 2, 3, 4, 7, 8, 9, 10]
def Tryd.cf70 : CF := ⟨4, (cSeq (cOps [(oT 4 (iBox 73 (.t 0))),
 (oT 7 (iBox 90 (.t 3))),
 (oT 8 (iMov (.c (.int .i64 (.lit 0)))))])
 (cSeq (dOps 0 [⟨(oF 11 (iFaddr 0 (.t 7))), [7], false, 0, 0, none, []⟩,
 ⟨(oF 12 (iLoad (.t 11))), [11], false, 0, 0, none, []⟩,
 ⟨(oF 13 (iFaddr 0 (.t 4))), [4], false, 0, 0, none, []⟩,
 ⟨(oF 14 (iFaddr 0 (.t 13))), [13], false, 0, 0, none, []⟩,
 ⟨(oF 15 (iLoad (.t 14))), [14], false, 0, 0, none, []⟩,
 ⟨(oF 16 (iMov (.t 1))), [1], false, 0, 0, none, []⟩,
 ⟨(oF 17 (iIaddr 6 (.t 15) (.t 16))), [15, 16], false, 0, 0, none, []⟩,
 ⟨(oF 18 (iFaddr 4 (.t 17))), [17], false, 0, 0, none, []⟩,
 ⟨(oF 19 (iLoadN 2 (.t 18))), [18], false, 0, 0, none, []⟩,
 ⟨(oF 20 (iCall (.t 12) [(.t 19)])), [12, 19], true, 0, 0, none, []⟩,
 ⟨(oF 21 (iFaddr 1 (.t 7))), [7], false, 0, 1, none, []⟩,
 ⟨(oF 22 (iLoad (.t 21))), [21], false, 0, 1, none, []⟩,
 ⟨(oF 23 (iFaddr 0 (.t 4))), [4], false, 0, 1, none, []⟩,
 ⟨(oF 24 (iFaddr 3 (.t 23))), [23], false, 0, 1, none, []⟩,
 ⟨(oF 25 (iLoadN 2 (.t 24))), [24], false, 0, 1, none, []⟩,
 ⟨(oF 26 (iCall (.t 22) [(.t 25)])), [22, 25], true, 1, 0, none, []⟩,
 ⟨(oT 9 (iMov (.t 20))), [20], false, 2, 2, none, []⟩,
 ⟨(oT 10 (iMov (.t 26))), [26], false, 2, 2, none, []⟩])
 (cSeq (cOps [(oF 27 (iMov (.t 9))),
 (oF 28 (iMov (.t 2))),
 (oF 29 (iMov (.t 10))),
 (oF 30 (iArith .mul (.t 28) (.t 29))),
 (oF 31 (iArith .sub (.t 27) (.t 30))),
 (oF 32 (iMax [(.c (.int .i64 (.lit 0))), (.t 31)])),
 (oT 8 (iMov (.t 32)))])
 cRet))), [.t 8]⟩
def Tryd.kp71 : List Nat := [0, 1, 2]
def Tryd.cf71 : CF := ⟨1, (cSeq (cOps [(oT 1 (iBox 115 (.t 0))),
 (oT 2 (iMov (.c (.int .i64 (.lit 0)))))])
 (cSeq (cOps [(oF 3 (iFaddr 0 (.t 1))),
 (oF 4 (iLoad (.t 3))),
 (oT 2 (iMov (.t 4)))])
 cRet)), [.t 2]⟩
def Tryd.kp72 : List Nat := [0, 1, 2]
def Tryd.cf72 : CF := ⟨1, (cSeq (cOps [(oT 1 (iBox 115 (.t 0))),
 (oT 2 (iMov (.c (.int .i64 (.lit 0)))))])
 (cSeq (cOps [(oF 3 (iFaddr 1 (.t 1))),
 (oF 4 (iLoad (.t 3))),
 (oT 2 (iMov (.t 4)))])
 cRet)), [.t 2]⟩
def Tryd.kp73 : List Nat := [0, 1, 2, 3, 4, 5, 6, 7, 8, 12, 13, 14, 15]
def Tryd.cf73 : CF := ⟨4, (cSeq (cOps [(oT 4 (iBox 90 (.t 0))),
 (oT 5 (iMov (.c (.int .i64 (.lit 0)))))])
 (cSeq (cOps [(oF 9 (iLoad (.t 1))),
 (oF 10 (iLenS (.t 9))),
 (oF 11 (iMkslice 3 [(.int .i64 (.lit 0))] 8 (.t 10) (.t 10))),
 (oT 6 (iMov (.t 11)))])
 (cSeq (cSeq (cOps [(oT 12 (iLoad (.t 1))),
 (oT 13 (iLenS (.t 12))),
 (oT 14 (iMov (.c (.int .i64 (.lit 0)))))])
 (cBlock 0 (cLoop (cSeq (cOps [(oT 15 (iCmp .lss (.t 14) (.t 13)))])
 (cSeq (cCond (.t 15) cSkip (cExit 0))
 (cSeq (cBlock 1 (cSeq (cOps [(oF 16 (iMov (.t 14))),
 (oF 17 (iIaddr 1 (.t 12) (.t 14))),
 (oF 18 (iLoad (.t 17))),
 (oT 7 (iMov (.t 16))),
 (oT 8 (iMov (.t 18)))])
 (cOps [(oF 19 (iMov (.t 6))),
 (oF 20 (iMov (.t 7))),
 (oF 21 (iLoadN 7 (.t 2))),
 (oF 22 (iMov (.t 8))),
 (oF 23 (iLoad (.t 3))),
 (oF 24 (iLoadN 2 (.t 4))),
 (oF 25 (iCall (.c (.func (.func 70) [] [])) [(.t 21), (.t 22), (.t 23), (.t 24)])),
 (oF 26 (iIaddr 1 (.t 19) (.t 20))),
 (oN (iStore 1 (.t 26) (.t 25)))])))
 (cOps [(oF 27 (iArith .add (.t 14) (.c (.int .i64 (.lit 1))))),
 (oT 14 (iMov (.t 27)))])))))))
 (cSeq (dOps 0 [⟨(oF 28 (iMov (.t 6))), [6], false, 0, 0, none, []⟩,
 ⟨(oF 29 (iCall (.c (.func (.func 74) [] [])) [(.t 28)])), [28], true, 0, 0, none, []⟩,
 ⟨(oF 30 (iFaddr 0 (.t 4))), [4], false, 0, 1, none, []⟩,
 ⟨(oF 31 (iLoad (.t 30))), [30], false, 0, 1, none, []⟩,
 ⟨(oF 32 (iFaddr 0 (.t 2))), [2], false, 0, 1, none, []⟩,
 ⟨(oF 33 (iFaddr 1 (.t 32))), [32], false, 0, 1, none, []⟩,
 ⟨(oF 34 (iLoadN 2 (.t 33))), [33], false, 0, 1, none, []⟩,
 ⟨(oF 35 (iCall (.t 31) [(.t 34)])), [31, 34], true, 1, 0, none, []⟩,
 ⟨(oF 36 (iArith .mul (.t 29) (.t 35))), [29, 35], false, 2, 2, none, []⟩,
 ⟨(oT 5 (iMov (.t 36))), [36], false, 2, 2, none, []⟩])
 cRet)))), [.t 5]⟩
def Tryd.kp74 : List Nat := [0, 2, 3, 5, 6, 7, 8, 9]
def Tryd.cf74 : CF := ⟨1, (cSeq (cOps [(oT 2 (iMov (.c (.int .i64 (.lit 0)))))])
 (cSeq (cOps [(oT 3 (iMov (.c (.int .i64 (.lit 0)))))])
 (cSeq (cSeq (cOps [(oT 6 (iMov (.t 0))),
 (oT 7 (iLenS (.t 6))),
 (oT 8 (iMov (.c (.int .i64 (.lit 0)))))])
 (cBlock 0 (cLoop (cSeq (cOps [(oT 9 (iCmp .lss (.t 8) (.t 7)))])
 (cSeq (cCond (.t 9) cSkip (cExit 0))
 (cSeq (cBlock 1 (cSeq (cOps [(oF 10 (iIaddr 1 (.t 6) (.t 8))),
 (oF 11 (iLoad (.t 10))),
 (oT 5 (iMov (.t 11)))])
 (cOps [(oF 12 (iMov (.t 3))),
 (oF 13 (iMov (.t 5))),
 (oF 14 (iArith .add (.t 12) (.t 13))),
 (oT 3 (iMov (.t 14)))])))
 (cOps [(oF 15 (iArith .add (.t 8) (.c (.int .i64 (.lit 1))))),
 (oT 8 (iMov (.t 15)))])))))))
 (cSeq (cOps [(oF 16 (iMov (.t 3))),
 (oT 2 (iMov (.t 16)))])
 cRet)))), [.t 2]⟩
def Tryd.kp75 : List Nat := [0, 1, 2, 3, 4, 5, 10]
def Tryd.cf75 : CF := ⟨3, (cSeq (cOps [(oT 3 (iBox 76 (.t 0)))])
 (cSeq (cOps [(oF 6 (iMkslice 3 [(.int .i64 (.lit 0))] 8 (.c (.int .i64 (.lit 6))) (.c (.int .i64 (.lit 6))))),
 (oT 4 (iAlloc 27 [.nilslice])),
 (oN (iStore 1 (.t 4) (.t 6)))])
 (cSeq (cOps [(oT 5 (iAlloc 119 [.nilFunc]))])
 (cSeq (cOps [(oF 7 (iFunc (.func 76) [] [(.t 3), (.t 4), (.t 1), (.t 5)])),
 (oN (iStore 1 (.t 5) (.t 7)))])
 (cSeq (cOps [(oF 8 (iLoadN 6 (.t 2))),
 (oF 9 (iBuild [(.bool (.lit false)), (.bool (.lit false)), (.bool (.lit false)), (.bool (.lit false)), (.bool (.lit false)), (.bool (.lit false))] [])),
 (oT 10 (iEq true true 6 [(0, .bool), (1, .bool), (2, .bool), (3, .bool), (4, .bool), (5, .bool)] (.t 8) (.t 9)))])
 (cCond (.t 10) (dOps 0 [⟨(oF 11 (iLoad (.t 5))), [5], false, 0, 1, none, []⟩,
 ⟨(oF 12 (iLoadN 6 (.t 2))), [2], false, 0, 1, none, []⟩,
 ⟨(oF 13 (iCall (.c (.func (.func 59) [] [])) [])), [], true, 0, 0, none, []⟩,
 ⟨(oF 14 (iCall (.t 11) [(.c (.int .i64 (.lit 0))), (.t 12), (.t 13)])), [11, 12, 13], true, 1, 0, none, []⟩]) cSkip)))))), []⟩
def Tryd.kp76 : List Nat := [0, 1, 2, 3, 4, 5, 6, 8, 9, 10, 11, 12, 13, 16, 23, 24, 29, 37, 51]
def Tryd.cf76 : CF := ⟨7, (cSeq (cOps [(oT 8 (iBox 84 (.t 1))),
 (oT 9 (iBox 100 (.t 2))),
 (oT 10 (iMov (.c (.bool (.lit false)))))])
 (cSeq (cSeq (cOps [(oF 14 (iLoadN 6 (.t 8))),
 (oF 15 (iBuild [(.bool (.lit false)), (.bool (.lit false)), (.bool (.lit false)), (.bool (.lit false)), (.bool (.lit false)), (.bool (.lit false))] [])),
 (oT 16 (iEq false true 6 [(0, .bool), (1, .bool), (2, .bool), (3, .bool), (4, .bool), (5, .bool)] (.t 14) (.t 15)))])
 (cCond (.t 16) (cSeq (dOps 0 [⟨(oF 17 (iLoad (.t 3))), [3], false, 0, 0, none, []⟩,
 ⟨(oF 18 (iLoad (.t 4))), [4], false, 0, 0, none, []⟩,
 ⟨(oF 19 (iMov (.t 0))), [0], false, 0, 0, none, []⟩,
 ⟨(oF 20 (iMov (.t 0))), [0], false, 0, 0, none, []⟩,
 ⟨(oF 21 (iSlice 1 (.t 18) none (some (.t 19)) (some (.t 20)))), [18, 19, 20], false, 0, 0, none, []⟩,
 ⟨(oF 22 (iCall (.t 17) [(.t 21)])), [17, 21], true, 0, 0, none, []⟩,
 ⟨(oT 10 (iMov (.t 22))), [22], false, 1, 1, none, []⟩])
 cRet) cSkip))
 (cSeq cSkip
 (cSeq (cSeq (cOps [(oT 23 (iMov (.c (.int .i64 (.lit 0)))))])
 (cBlock 0 (cLoop (cSeq (cOps [(oT 24 (iCmp .lss (.t 23) (.c (.int .i64 (.lit 6)))))])
 (cSeq (cCond (.t 24) cSkip (cExit 0))
 (cSeq (cBlock 1 (cSeq (cOps [(oF 25 (iMov (.t 23))),
 (oT 11 (iMov (.t 25)))])
 (cSeq (cSeq (cOps [(oF 26 (iMov (.t 11))),
 (oF 27 (iIaddrA 1 6 (.t 8) (.t 26))),
 (oF 28 (iLoad (.t 27))),
 (oT 29 (iNot (.t 28)))])
 (cCond (.t 29) (cExit 1) cSkip))
 (cSeq (cOps [(oF 30 (iLoad (.t 5))),
 (oF 31 (iMov (.t 11))),
 (oF 32 (iLoadN 2 (.t 9))),
 (oF 33 (iBuild [(.int .i64 (.lit 0)), (.int .i64 (.lit 0)), (.int .i64 (.lit 0))] [(0, 1, (.t 31)), (1, 2, (.t 32))])),
 (oF 34 (iCall (.t 30) [(.t 33)])),
 (oT 12 (iAlloc 100 [(.int .i64 (.lit 0)), (.int .i64 (.lit 0))])),
 (oN (iStore 2 (.t 12) (.t 34)))])
 (cSeq (cSeq (cOps [(oF 35 (iLoadN 2 (.t 12))),
 (oF 36 (iBuild [(.int .i64 (.lit 0)), (.int .i64 (.lit 0))] [])),
 (oT 37 (iEq false true 2 [(0, .int), (1, .int)] (.t 35) (.t 36)))])
 (cCond (.t 37) (cExit 1) cSkip))
 (cSeq (cOps [(oF 38 (iLoad (.t 4))),
 (oF 39 (iMov (.t 0))),
 (oF 40 (iMov (.t 11))),
 (oF 41 (iIaddr 1 (.t 38) (.t 39))),
 (oN (iStore 1 (.t 41) (.t 40)))])
 (cSeq (cOps [(oF 42 (iLoadN 6 (.t 8))),
 (oT 13 (iAlloc 84 [(.bool (.lit false)), (.bool (.lit false)), (.bool (.lit false)), (.bool (.lit false)), (.bool (.lit false)), (.bool (.lit false))])),
 (oN (iStore 6 (.t 13) (.t 42)))])
 (cSeq (cOps [(oF 43 (iMov (.t 11))),
 (oF 44 (iIaddrA 1 6 (.t 13) (.t 43))),
 (oN (iStore 1 (.t 44) (.c (.bool (.lit false)))))])
 (cSeq (cOps [(oF 45 (iLoad (.t 6))),
 (oF 46 (iMov (.t 0))),
 (oF 47 (iArith .add (.t 46) (.c (.int .i64 (.lit 1))))),
 (oF 48 (iLoadN 6 (.t 13))),
 (oF 49 (iLoadN 2 (.t 12))),
 (oF 50 (iCall (.t 45) [(.t 47), (.t 48), (.t 49)])),
 (oT 51 (iNot (.t 50)))])
 (cCond (.t 51) (cSeq (cOps [(oT 10 (iMov (.c (.bool (.lit false)))))])
 cRet) cSkip))))))))))
 (cOps [(oF 52 (iArith .add (.t 23) (.c (.int .i64 (.lit 1))))),
 (oT 23 (iMov (.t 52)))])))))))
 (cSeq (cOps [(oT 10 (iMov (.c (.bool (.lit true)))))])
 cRet))))), [.t 10]⟩
def Tryd.kp77 : List Nat := [0, 1, 4]
def Tryd.cf77 : CF := ⟨2, (cSeq (cOps [(oT 4 (iMov (.c (.bool (.lit false)))))])
 (cSeq (cOps [(oF 5 (iMov (.t 0))),
 (oF 6 (iMov (.t 1))),
 (oF 7 (iCall (.c (.func (.func 65) [] [])) [(.t 5), (.t 6)])),
 (oF 8 (iCmp .geq (.t 7) (.c (.int .i64 (.lit 0))))),
 (oT 4 (iMov (.t 8)))])
 cRet)), [.t 4]⟩
def Tryd.kp78 : List Nat := [0, 1, 2, 3, 4, 5]
def Tryd.cf78 : CF := ⟨3, (cSeq (cOps [(oT 3 (iBox 76 (.t 0)))])
 (cSeq (cOps [(oF 6 (iLoad (.t 1))),
 (oF 7 (iMkslice 3 [(.int .i64 (.lit 0))] 8 (.t 6) (.t 6))),
 (oT 4 (iAlloc 27 [.nilslice])),
 (oN (iStore 1 (.t 4) (.t 7)))])
 (cSeq (cOps [(oT 5 (iAlloc 86 [.nilFunc]))])
 (cSeq (cOps [(oF 8 (iFunc (.func 79) [] [(.t 1), (.t 3), (.t 4), (.t 2), (.t 5)])),
 (oN (iStore 1 (.t 5) (.t 8)))])
 (cOps [(oF 9 (iLoad (.t 5))),
 (oF 10 (iCall (.t 9) [(.c (.int .i64 (.lit 0))), (.c (.int .i64 (.lit 0)))]))]))))), []⟩
def Tryd.kp79 : List Nat := [0, 1, 2, 3, 4, 5, 6, 9, 10, 13, 23, 36]
def Tryd.cf79 : CF := ⟨7, (cSeq (cOps [(oT 9 (iMov (.c (.bool (.lit false)))))])
 (cSeq (cSeq (cOps [(oF 11 (iMov (.t 0))),
 (oF 12 (iLoad (.t 2))),
 (oT 13 (iCmp .eql (.t 11) (.t 12)))])
 (cCond (.t 13) (cSeq (dOps 0 [⟨(oF 14 (iLoad (.t 3))), [3], false, 0, 0, none, []⟩,
 ⟨(oF 15 (iLoad (.t 4))), [4], false, 0, 0, none, []⟩,
 ⟨(oF 16 (iMov (.t 0))), [0], false, 0, 0, none, []⟩,
 ⟨(oF 17 (iMov (.t 0))), [0], false, 0, 0, none, []⟩,
 ⟨(oF 18 (iSlice 1 (.t 15) none (some (.t 16)) (some (.t 17)))), [15, 16, 17], false, 0, 0, none, []⟩,
 ⟨(oF 19 (iCall (.t 14) [(.t 18)])), [14, 18], true, 0, 0, none, []⟩,
 ⟨(oT 9 (iMov (.t 19))), [19], false, 1, 1, none, []⟩])
 cRet) cSkip))
 (cSeq (cSeq (cOps [(oF 20 (iMov (.t 1))),
 (oT 10 (iMov (.t 20)))])
 (cBlock 0 (cLoop (cSeq (cSeq (cOps [(oF 21 (iMov (.t 10))),
 (oF 22 (iLoad (.t 5))),
 (oT 23 (iCmp .lss (.t 21) (.t 22)))])
 (cCond (.t 23) cSkip (cExit 0)))
 (cSeq (cBlock 1 (cSeq (cOps [(oF 26 (iLoad (.t 4))),
 (oF 27 (iMov (.t 0))),
 (oF 28 (iMov (.t 10))),
 (oF 29 (iIaddr 1 (.t 26) (.t 27))),
 (oN (iStore 1 (.t 29) (.t 28)))])
 (cSeq (cOps [(oF 30 (iLoad (.t 6))),
 (oF 31 (iMov (.t 0))),
 (oF 32 (iArith .add (.t 31) (.c (.int .i64 (.lit 1))))),
 (oF 33 (iMov (.t 10))),
 (oF 34 (iArith .add (.t 33) (.c (.int .i64 (.lit 1))))),
 (oF 35 (iCall (.t 30) [(.t 32), (.t 34)])),
 (oT 36 (iNot (.t 35)))])
 (cCond (.t 36) (cSeq (cOps [(oT 9 (iMov (.c (.bool (.lit false)))))])
 cRet) cSkip))))
 (cOps [(oF 24 (iMov (.t 10))),
 (oF 25 (iArith .add (.t 24) (.c (.int .i64 (.lit 1))))),
 (oT 10 (iMov (.t 25)))]))))))
 (cSeq (cOps [(oT 9 (iMov (.c (.bool (.lit true)))))])
 cRet)))), [.t 9]⟩
def Tryd.ft : PT CF := (.node none (.node none (.node (some Tryd.cf3) (.node (some Tryd.cf7) (.node (some Tryd.cf15) (.node (some Tryd.cf31) (.node (some Tryd.cf63) .nil .nil) .nil) (.node none (.node (some Tryd.cf79) .nil .nil) .nil)) (.node (some Tryd.cf23) (.node (some Tryd.cf39) (.node (some Tryd.cf71) .nil .nil) .nil) (.node (some Tryd.cf55) .nil .nil))) (.node (some Tryd.cf11) (.node (some Tryd.cf19) (.node (some Tryd.cf35) (.node (some Tryd.cf67) .nil .nil) .nil) (.node (some Tryd.cf51) .nil .nil)) (.node (some Tryd.cf27) (.node (some Tryd.cf43) (.node (some Tryd.cf75) .nil .nil) .nil) (.node (some Tryd.cf59) .nil .nil)))) (.node none (.node (some Tryd.cf9) (.node (some Tryd.cf17) (.node (some Tryd.cf33) (.node (some Tryd.cf65) .nil .nil) .nil) (.node (some Tryd.cf49) .nil .nil)) (.node (some Tryd.cf25) (.node (some Tryd.cf41) (.node (some Tryd.cf73) .nil .nil) .nil) (.node (some Tryd.cf57) .nil .nil))) (.node (some Tryd.cf13) (.node none (.node (some Tryd.cf37) (.node (some Tryd.cf69) .nil .nil) .nil) (.node (some Tryd.cf53) .nil .nil)) (.node (some Tryd.cf29) (.node (some Tryd.cf45) (.node (some Tryd.cf77) .nil .nil) .nil) (.node (some Tryd.cf61) .nil .nil))))) (.node none (.node none (.node (some Tryd.cf8) (.node (some Tryd.cf16) (.node (some Tryd.cf32) (.node (some Tryd.cf64) .nil .nil) .nil) .nil) (.node (some Tryd.cf24) (.node (some Tryd.cf40) (.node (some Tryd.cf72) .nil .nil) .nil) (.node (some Tryd.cf56) .nil .nil))) (.node (some Tryd.cf12) (.node none (.node (some Tryd.cf36) (.node (some Tryd.cf68) .nil .nil) .nil) (.node (some Tryd.cf52) .nil .nil)) (.node (some Tryd.cf28) (.node (some Tryd.cf44) (.node (some Tryd.cf76) .nil .nil) .nil) (.node (some Tryd.cf60) .nil .nil)))) (.node none (.node (some Tryd.cf10) (.node (some Tryd.cf18) (.node (some Tryd.cf34) (.node (some Tryd.cf66) .nil .nil) .nil) (.node (some Tryd.cf50) .nil .nil)) (.node (some Tryd.cf26) (.node (some Tryd.cf42) (.node (some Tryd.cf74) .nil .nil) .nil) (.node (some Tryd.cf58) .nil .nil))) (.node (some Tryd.cf14) (.node none (.node (some Tryd.cf38) (.node (some Tryd.cf70) .nil .nil) .nil) (.node (some Tryd.cf54) .nil .nil)) (.node (some Tryd.cf30) (.node (some Tryd.cf46) (.node (some Tryd.cf78) .nil .nil) .nil) (.node (some Tryd.cf62) .nil .nil))))))
def Tryd.rt : List (Nat × (C × C)) := [(11017, (Tryd.ra11017, Tryd.rb11017)), (12017, (Tryd.ra12017, Tryd.rb12017)), (43018, (Tryd.ra43018, Tryd.rb43018)), (45009, (Tryd.ra45009, Tryd.rb45009)), (64009, (Tryd.ra64009, Tryd.rb64009))]
end
end Go.Sx
