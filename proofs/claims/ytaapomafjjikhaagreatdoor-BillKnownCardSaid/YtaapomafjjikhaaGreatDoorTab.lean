/- THE TABLES OF THE PROGRAM: its types, and its functions as the evaluator runs them. -/
import Derived.Test.YtaapomafjjikhaaGreatDoorTabA
import Derived.KernelRfl
/-! THE TABLES OF THE PROGRAM: its types, and its functions as the evaluator runs them. -/
namespace Go.Sx
set_option maxRecDepth 100000
noncomputable def Tryz.cf86 : CF := ⟨4, (cSeq (cOps [⟨some 4, true, none, iBox 26 (.t 0)⟩,
 ⟨some 8, true, none, iMov (.c (.int .i64 (.lit 0)))⟩,
 ⟨some 9, true, none, iMov (.c (.int .i64 (.lit 0)))⟩])
 (cSeq (cOps [⟨some 13, false, none, iLoadN 6 (.t 4)⟩,
 ⟨some 14, false, none, iCall (.c (.func (.func 101) [] [])) [(.t 13)]⟩,
 ⟨some 12, false, none, iMov (.t 14)⟩,
 ⟨some 15, false, none, iExtract 0 (.t 12)⟩,
 ⟨some 16, false, none, iExtract 1 (.t 12)⟩,
 ⟨some 10, true, none, iAlloc 151 [.nilslice, (.int .i64 (.lit 0)), .nilslice, (.int .i64 (.lit 0)), (.int .i64 (.lit 0)), .nilslice]⟩,
 ⟨none, false, none, iStore 6 (.t 10) (.t 15)⟩,
 ⟨some 11, true, none, iMov (.t 16)⟩])
 (cSeq (cSeq (cOps [⟨some 17, false, none, iMov (.t 11)⟩,
 ⟨some 18, true, none, iCmp .neq (.t 17) (.c (.int .i64 (.lit 0)))⟩])
 (cCond (.t 18) (cSeq (cOps [⟨some 19, false, none, iMov (.t 11)⟩,
 ⟨some 8, true, none, iMov (.c (.int .i64 (.lit 0)))⟩,
 ⟨some 9, true, none, iMov (.t 19)⟩])
 cRet) cSkip))
 (cSeq (cSeq (cOps [⟨some 20, false, none, iMov (.t 1)⟩,
 ⟨some 21, false, none, iCall (.c (.func (.func 132) [] [])) [(.t 20)]⟩,
 ⟨some 22, false, none, iNot (.t 21)⟩,
 ⟨some 23, false, none, iMov (.t 22)⟩,
 ⟨some 24, false, some (23, false), iMov (.t 2)⟩,
 ⟨some 25, false, some (23, false), iCall (.c (.func (.func 133) [] [])) [(.t 24)]⟩,
 ⟨some 26, false, some (23, false), iNot (.t 25)⟩,
 ⟨some 27, false, none, iPick (.t 23) (.c (.bool (.lit true))) (.t 26)⟩,
 ⟨some 28, false, none, iMov (.t 27)⟩,
 ⟨some 29, false, some (28, false), iMov (.t 3)⟩,
 ⟨some 30, false, some (28, false), iCall (.c (.func (.func 134) [] [])) [(.t 29)]⟩,
 ⟨some 31, false, some (28, false), iNot (.t 30)⟩,
 ⟨some 32, true, none, iPick (.t 28) (.c (.bool (.lit true))) (.t 31)⟩])
 (cCond (.t 32) (cSeq (cOps [⟨some 8, true, none, iMov (.c (.int .i64 (.lit 0)))⟩,
 ⟨some 9, true, none, iMov (.c (.int .i64 (.lit 51)))⟩])
 cRet) cSkip))
 (cSeq (cOps [⟨some 33, false, none, iLoadN 6 (.t 10)⟩,
 ⟨some 34, false, none, iMov (.t 1)⟩,
 ⟨some 35, false, none, iMov (.t 2)⟩,
 ⟨some 36, false, none, iMov (.t 3)⟩,
 ⟨some 37, false, none, iBuild [(.int .i64 (.lit 0)), (.int .i64 (.lit 0)), (.int .i64 (.lit 0))] [(0, 1, (.t 34)), (1, 1, (.t 35)), (2, 1, (.t 36))]⟩,
 ⟨some 38, false, none, iCall (.c (.func (.func 135) [] [])) [(.t 33), (.t 37)]⟩,
 ⟨some 8, true, none, iMov (.t 38)⟩,
 ⟨some 9, true, none, iMov (.c (.int .i64 (.lit 0)))⟩])
 cRet))))), [.t 8, .t 9]⟩
noncomputable def Tryz.kp90 : List Nat := [0]
noncomputable def Tryz.cf90 : CF := ⟨0, (cSeq (cOps [⟨some 0, true, none, iAlloc 26 [.nilslice, (.int .i64 (.lit 0)), .nilslice, (.int .i64 (.lit 0)), (.int .i64 (.lit 0)), .nilslice]⟩])
 (cSeq (cOps [⟨some 1, false, none, iBuild [(.int .i64 (.lit 0)), (.int .i64 (.lit 0)), (.int .i64 (.lit 0))] [(0, 1, (.c (.int .i64 (.lit 1)))), (1, 1, (.c (.int .i64 (.lit 5)))), (2, 1, (.c (.int .i64 (.lit 2))))]⟩,
 ⟨some 2, false, none, iBuild [(.int .i64 (.lit 0)), (.int .i64 (.lit 0)), (.int .i64 (.lit 0))] [(0, 1, (.c (.int .i64 (.lit 7)))), (1, 1, (.c (.int .i64 (.lit 20)))), (2, 1, (.c (.int .i64 (.lit 10))))]⟩,
 ⟨some 3, false, none, iBslice 166 [(.int .i64 (.lit 0)), (.int .i64 (.lit 0)), (.int .i64 (.lit 0))] 2 [(0, 3, (.t 1)), (3, 3, (.t 2))]⟩,
 ⟨some 4, false, none, iCall (.c (.func (.func 46) [] [])) [(.c (.int .i64 (.lit 105))), (.c (.int .i64 (.lit 106)))]⟩,
 ⟨some 5, false, none, iBslice 29 [(.int .i64 (.lit 0)), (.int .i64 (.lit 0))] 1 [(0, 2, (.t 4))]⟩,
 ⟨some 6, false, none, iBuild [(.int .i64 (.lit 0)), (.int .i64 (.lit 0))] [(0, 1, (.c (.int .i64 (.lit 1)))), (1, 1, (.c (.int .i64 (.lit 100))))]⟩,
 ⟨some 7, false, none, iBslice 191 [(.int .i64 (.lit 0)), (.int .i64 (.lit 0))] 1 [(0, 2, (.t 6))]⟩,
 ⟨some 8, false, none, iBuild [.nilslice, (.int .i64 (.lit 0)), .nilslice, (.int .i64 (.lit 0)), (.int .i64 (.lit 0)), .nilslice] [(0, 1, (.t 3)), (1, 1, (.c (.int .i64 (.lit 1)))), (2, 1, (.t 5)), (3, 1, (.c (.int .i64 (.lit 8)))), (4, 1, (.c (.int .i64 (.lit 1350)))), (5, 1, (.t 7))]⟩,
 ⟨none, false, none, iStore 6 (.t 0) (.t 8)⟩])
 cRet)), [.cell 0 true 6]⟩
noncomputable def Tryz.kp101 : List Nat := [0, 1, 2, 3, 4, 9]
noncomputable def Tryz.cf101 : CF := ⟨1, (cSeq (cOps [⟨some 1, true, none, iBox 26 (.t 0)⟩,
 ⟨some 2, true, none, iAlloc 151 [.nilslice, (.int .i64 (.lit 0)), .nilslice, (.int .i64 (.lit 0)), (.int .i64 (.lit 0)), .nilslice]⟩,
 ⟨some 3, true, none, iMov (.c (.int .i64 (.lit 0)))⟩])
 (cSeq (cOps [⟨some 5, false, none, iLoadN 6 (.t 1)⟩,
 ⟨some 6, false, none, iBuild [.nilslice, (.int .i64 (.lit 0)), .nilslice, (.int .i64 (.lit 0)), (.int .i64 (.lit 0)), .nilslice] [(0, 6, (.t 5))]⟩,
 ⟨some 4, true, none, iAlloc 151 [.nilslice, (.int .i64 (.lit 0)), .nilslice, (.int .i64 (.lit 0)), (.int .i64 (.lit 0)), .nilslice]⟩,
 ⟨none, false, none, iStore 6 (.t 4) (.t 6)⟩])
 (cSeq (cSeq (cOps [⟨some 7, false, none, iLoadN 6 (.t 4)⟩,
 ⟨some 8, false, none, iCall (.c (.func (.func 148) [] [])) [(.t 7)]⟩,
 ⟨some 9, true, none, iNot (.t 8)⟩])
 (cCond (.t 9) (cSeq (cOps [⟨some 10, false, none, iBuild [.nilslice, (.int .i64 (.lit 0)), .nilslice, (.int .i64 (.lit 0)), (.int .i64 (.lit 0)), .nilslice] []⟩,
 ⟨none, false, none, iStore 6 (.t 2) (.t 10)⟩,
 ⟨some 3, true, none, iMov (.c (.int .i64 (.lit 50)))⟩])
 cRet) cSkip))
 (cSeq (cOps [⟨some 11, false, none, iLoadN 6 (.t 4)⟩,
 ⟨none, false, none, iStore 6 (.t 2) (.t 11)⟩,
 ⟨some 3, true, none, iMov (.c (.int .i64 (.lit 0)))⟩])
 cRet)))), [.cell 2 true 6, .t 3]⟩
noncomputable def Tryz.kp103 : List Nat := [0, 1, 2]
noncomputable def Tryz.cf103 : CF := ⟨1, (cSeq (cOps [⟨some 1, true, none, iBox 29 (.t 0)⟩,
 ⟨some 2, true, none, iMov (.c (.bool (.lit false)))⟩])
 (cSeq (cOps [⟨some 3, false, none, iFaddr 0 (.t 1)⟩,
 ⟨some 4, false, none, iLoad (.t 3)⟩,
 ⟨some 5, false, none, iFaddr 1 (.t 1)⟩,
 ⟨some 6, false, none, iLoad (.t 5)⟩,
 ⟨some 7, false, none, iCmp .leq (.t 4) (.t 6)⟩,
 ⟨some 8, false, none, iMov (.t 7)⟩,
 ⟨some 9, false, some (8, true), iFaddr 0 (.t 1)⟩,
 ⟨some 10, false, some (8, true), iLoad (.t 9)⟩,
 ⟨some 11, false, some (8, true), iCall (.c (.func (.func 132) [] [])) [(.t 10)]⟩,
 ⟨some 12, false, none, iPick (.t 8) (.t 11) (.c (.bool (.lit false)))⟩,
 ⟨some 13, false, none, iMov (.t 12)⟩,
 ⟨some 14, false, some (13, true), iFaddr 1 (.t 1)⟩,
 ⟨some 15, false, some (13, true), iLoad (.t 14)⟩,
 ⟨some 16, false, some (13, true), iCall (.c (.func (.func 132) [] [])) [(.t 15)]⟩,
 ⟨some 17, false, none, iPick (.t 13) (.t 16) (.c (.bool (.lit false)))⟩,
 ⟨some 2, true, none, iMov (.t 17)⟩])
 cRet)), [.t 2]⟩
noncomputable def Tryz.kp105 : List Nat := [0, 1, 2, 3, 4, 5, 6, 8, 14, 15, 16, 24, 30, 31, 32, 40, 43, 44, 45, 46, 51]
noncomputable def Tryz.cf105 : CF := ⟨1, (cSeq (cOps [⟨some 1, true, none, iBox 31 (.t 0)⟩,
 ⟨some 2, true, none, iMov (.c (.bool (.lit false)))⟩])
 (cSeq (cSeq (cOps [⟨some 9, false, none, iFaddr 6 (.t 1)⟩,
 ⟨some 10, false, none, iLoad (.t 9)⟩,
 ⟨some 11, false, none, iFaddr 7 (.t 1)⟩,
 ⟨some 12, false, none, iLoad (.t 11)⟩,
 ⟨some 13, false, none, iLenS (.t 12)⟩,
 ⟨some 14, true, none, iBuild [(.int .i64 (.lit 0)), (.int .i64 (.lit 0))] [(0, 1, (.t 10)), (1, 1, (.t 13))]⟩,
 ⟨some 15, true, none, iMov (.c (.int .i64 (.lit 0)))⟩])
 (cBlock 0 (cLoop (cSeq (cOps [⟨some 16, true, none, iCmp .lss (.t 15) (.c (.int .i64 (.lit 2)))⟩])
 (cSeq (cCond (.t 16) cSkip (cExit 0))
 (cSeq (cBlock 1 (cSeq (cOps [⟨some 17, false, none, iMov (.t 15)⟩,
 ⟨some 18, false, none, iIndex false 1 2 (.t 14) (.t 15)⟩,
 ⟨some 3, true, none, iMov (.t 17)⟩,
 ⟨some 4, true, none, iMov (.t 18)⟩])
 (cSeq (cOps [⟨some 19, false, none, iMov (.t 4)⟩,
 ⟨some 20, false, none, iMov (.t 3)⟩,
 ⟨some 21, false, none, iIaddrA 2 2 (.c (.ptr 1 0)) (.t 20)⟩,
 ⟨some 22, false, none, iLoadN 2 (.t 21)⟩,
 ⟨some 23, false, none, iCall (.c (.func (.func 153) [] [])) [(.t 19), (.t 22)]⟩,
 ⟨some 24, true, none, iNot (.t 23)⟩])
 (cCond (.t 24) (cSeq (cOps [⟨some 2, true, none, iMov (.c (.bool (.lit false)))⟩])
 cRet) cSkip))))
 (cOps [⟨some 25, false, none, iArith .add (.t 15) (.c (.int .i64 (.lit 1)))⟩,
 ⟨some 15, true, none, iMov (.t 25)⟩])))))))
 (cSeq (cSeq (cOps [⟨some 26, false, none, iFaddr 8 (.t 1)⟩,
 ⟨some 27, false, none, iLoadN 2 (.t 26)⟩,
 ⟨some 28, false, none, iFaddr 10 (.t 1)⟩,
 ⟨some 29, false, none, iLoadN 2 (.t 28)⟩,
 ⟨some 30, true, none, iBuild [(.int .i64 (.lit 0)), (.int .i64 (.lit 0)), (.int .i64 (.lit 0)), (.int .i64 (.lit 0))] [(0, 2, (.t 27)), (2, 2, (.t 29))]⟩,
 ⟨some 31, true, none, iMov (.c (.int .i64 (.lit 0)))⟩])
 (cBlock 2 (cLoop (cSeq (cOps [⟨some 32, true, none, iCmp .lss (.t 31) (.c (.int .i64 (.lit 2)))⟩])
 (cSeq (cCond (.t 32) cSkip (cExit 2))
 (cSeq (cBlock 3 (cSeq (cOps [⟨some 33, false, none, iMov (.t 31)⟩,
 ⟨some 34, false, none, iIndex true 2 2 (.t 30) (.t 31)⟩,
 ⟨some 6, true, none, iAlloc 29 [(.int .i64 (.lit 0)), (.int .i64 (.lit 0))]⟩,
 ⟨some 5, true, none, iMov (.t 33)⟩,
 ⟨none, false, none, iStore 2 (.t 6) (.t 34)⟩])
 (cSeq (dOps 0 [⟨⟨some 35, false, none, iLoadN 2 (.t 6)⟩, [6], false, 0, 0, none, []⟩,
 ⟨⟨some 36, false, none, iMov (.t 5)⟩, [5], false, 0, 0, none, []⟩,
 ⟨⟨some 37, false, none, iIaddrA 2 2 (.c (.ptr 2 0)) (.t 36)⟩, [36], false, 0, 0, none, []⟩,
 ⟨⟨some 38, false, none, iLoadN 2 (.t 37)⟩, [37], false, 0, 0, none, []⟩,
 ⟨⟨some 39, false, none, iCall (.c (.func (.func 154) [] [])) [(.t 35), (.t 38)]⟩, [35, 38], true, 0, 0, none, []⟩,
 ⟨⟨some 40, true, none, iNot (.t 39)⟩, [39], false, 1, 1, none, []⟩])
 (cCond (.t 40) (cSeq (cOps [⟨some 2, true, none, iMov (.c (.bool (.lit false)))⟩])
 cRet) cSkip))))
 (cOps [⟨some 41, false, none, iArith .add (.t 31) (.c (.int .i64 (.lit 1)))⟩,
 ⟨some 31, true, none, iMov (.t 41)⟩])))))))
 (cSeq (cSeq (cOps [⟨some 42, false, none, iFaddr 7 (.t 1)⟩,
 ⟨some 43, true, none, iLoad (.t 42)⟩,
 ⟨some 44, true, none, iLenS (.t 43)⟩,
 ⟨some 45, true, none, iMov (.c (.int .i64 (.lit 0)))⟩])
 (cBlock 4 (cLoop (cSeq (cOps [⟨some 46, true, none, iCmp .lss (.t 45) (.t 44)⟩])
 (cSeq (cCond (.t 46) cSkip (cExit 4))
 (cSeq (cBlock 5 (cSeq (cOps [⟨some 47, false, none, iIaddr 10 (.t 43) (.t 45)⟩,
 ⟨some 48, false, none, iLoadN 10 (.t 47)⟩,
 ⟨some 8, true, none, iAlloc 70 [(.int .i64 (.lit 0)), .nilslice, (.int .i64 (.lit 0)), (.int .i64 (.lit 0)), (.int .i64 (.lit 0)), (.int .i64 (.lit 0)), (.int .i64 (.lit 0)), (.int .i64 (.lit 0)), (.int .i64 (.lit 0)), (.int .i64 (.lit 0))]⟩,
 ⟨none, false, none, iStore 10 (.t 8) (.t 48)⟩])
 (cSeq (cOps [⟨some 49, false, none, iLoadN 10 (.t 8)⟩,
 ⟨some 50, false, none, iCall (.c (.func (.func 155) [] [])) [(.t 49)]⟩,
 ⟨some 51, true, none, iNot (.t 50)⟩])
 (cCond (.t 51) (cSeq (cOps [⟨some 2, true, none, iMov (.c (.bool (.lit false)))⟩])
 cRet) cSkip))))
 (cOps [⟨some 52, false, none, iArith .add (.t 45) (.c (.int .i64 (.lit 1)))⟩,
 ⟨some 45, true, none, iMov (.t 52)⟩])))))))
 (cSeq (cOps [⟨some 53, false, none, iFaddr 0 (.t 1)⟩,
 ⟨some 54, false, none, iLoadN 6 (.t 53)⟩,
 ⟨some 55, false, none, iCall (.c (.func (.func 58) [] [])) [(.t 54)]⟩,
 ⟨some 56, false, none, iCmp .eql (.t 55) (.c (.int .i64 (.lit 0)))⟩,
 ⟨some 2, true, none, iMov (.t 56)⟩])
 cRet))))), [.t 2]⟩
noncomputable def Tryz.kp106 : List Nat := [0, 1, 2, 3, 4, 5, 6, 7, 8, 9, 10, 18, 31, 49]
noncomputable def Tryz.cf106 : CF := ⟨2, (cSeq (cOps [⟨some 2, true, none, iBox 103 (.t 0)⟩,
 ⟨some 3, true, none, iBox 70 (.t 1)⟩,
 ⟨some 4, true, none, iAlloc 29 [(.int .i64 (.lit 0)), (.int .i64 (.lit 0))]⟩,
 ⟨some 5, true, none, iMov (.c (.int .i64 (.lit 0)))⟩])
 (cSeq (cOps [⟨some 12, false, none, iFaddr 1 (.t 3)⟩,
 ⟨some 13, false, none, iLoadN 6 (.t 12)⟩,
 ⟨some 14, false, none, iCall (.c (.func (.func 129) [] [])) [(.t 13)]⟩,
 ⟨some 11, false, none, iMov (.t 14)⟩,
 ⟨some 15, false, none, iExtract 0 (.t 11)⟩,
 ⟨some 16, false, none, iExtract 1 (.t 11)⟩,
 ⟨some 6, true, none, iMov (.t 15)⟩,
 ⟨some 7, true, none, iMov (.t 16)⟩])
 (cSeq (cSeq (cOps [⟨some 17, false, none, iMov (.t 7)⟩,
 ⟨some 18, true, none, iCmp .neq (.t 17) (.c (.int .i64 (.lit 0)))⟩])
 (cCond (.t 18) (cSeq (cOps [⟨some 19, false, none, iBuild [(.int .i64 (.lit 0)), (.int .i64 (.lit 0))] []⟩,
 ⟨some 20, false, none, iMov (.t 7)⟩,
 ⟨none, false, none, iStore 2 (.t 4) (.t 19)⟩,
 ⟨some 5, true, none, iMov (.t 20)⟩])
 cRet) cSkip))
 (cSeq (cOps [⟨some 22, false, none, iFaddr 1 (.t 3)⟩,
 ⟨some 23, false, none, iLoadN 6 (.t 22)⟩,
 ⟨some 24, false, none, iMov (.t 6)⟩,
 ⟨some 25, false, none, iFaddr 7 (.t 3)⟩,
 ⟨some 26, false, none, iLoad (.t 25)⟩,
 ⟨some 27, false, none, iCall (.c (.func (.func 130) [] [])) [(.t 23), (.t 24), (.t 26)]⟩,
 ⟨some 21, false, none, iMov (.t 27)⟩,
 ⟨some 28, false, none, iExtract 0 (.t 21)⟩,
 ⟨some 29, false, none, iExtract 1 (.t 21)⟩,
 ⟨some 8, true, none, iMov (.t 28)⟩,
 ⟨some 7, true, none, iMov (.t 29)⟩])
 (cSeq (cSeq (cOps [⟨some 30, false, none, iMov (.t 7)⟩,
 ⟨some 31, true, none, iCmp .neq (.t 30) (.c (.int .i64 (.lit 0)))⟩])
 (cCond (.t 31) (cSeq (cOps [⟨some 32, false, none, iBuild [(.int .i64 (.lit 0)), (.int .i64 (.lit 0))] []⟩,
 ⟨some 33, false, none, iMov (.t 7)⟩,
 ⟨none, false, none, iStore 2 (.t 4) (.t 32)⟩,
 ⟨some 5, true, none, iMov (.t 33)⟩])
 cRet) cSkip))
 (cSeq (cOps [⟨some 35, false, none, iFaddr 1 (.t 3)⟩,
 ⟨some 36, false, none, iLoadN 6 (.t 35)⟩,
 ⟨some 37, false, none, iMov (.t 6)⟩,
 ⟨some 38, false, none, iFaddr 7 (.t 3)⟩,
 ⟨some 39, false, none, iLoad (.t 38)⟩,
 ⟨some 40, false, none, iCall (.c (.func (.func 131) [] [])) [(.t 36), (.t 37), (.t 39)]⟩,
 ⟨some 34, false, none, iMov (.t 40)⟩,
 ⟨some 41, false, none, iExtract 0 (.t 34)⟩,
 ⟨some 42, false, none, iExtract 1 (.t 34)⟩,
 ⟨some 9, true, none, iAlloc 29 [(.int .i64 (.lit 0)), (.int .i64 (.lit 0))]⟩,
 ⟨none, false, none, iStore 2 (.t 9) (.t 41)⟩,
 ⟨some 7, true, none, iMov (.t 42)⟩])
 (cSeq (cSeq (cOps [⟨some 43, false, none, iMov (.t 7)⟩,
 ⟨some 44, false, none, iCmp .neq (.t 43) (.c (.int .i64 (.lit 0)))⟩,
 ⟨some 45, false, none, iMov (.t 44)⟩,
 ⟨some 46, false, some (45, false), iFaddr 0 (.t 2)⟩,
 ⟨some 47, false, some (45, false), iFaddr 12 (.t 46)⟩,
 ⟨some 48, false, some (45, false), iLoad (.t 47)⟩,
 ⟨some 49, true, none, iPick (.t 45) (.c (.bool (.lit true))) (.t 48)⟩])
 (cCond (.t 49) (cSeq (cOps [⟨some 50, false, none, iLoadN 2 (.t 9)⟩,
 ⟨some 51, false, none, iMov (.t 7)⟩,
 ⟨none, false, none, iStore 2 (.t 4) (.t 50)⟩,
 ⟨some 5, true, none, iMov (.t 51)⟩])
 cRet) cSkip))
 (cSeq (cOps [⟨some 52, false, none, iMov (.t 8)⟩,
 ⟨some 53, false, none, iLenS (.t 52)⟩,
 ⟨some 54, false, none, iArith .sub (.t 53) (.c (.int .i64 (.lit 1)))⟩,
 ⟨some 55, false, none, iArith .mul (.t 54) (.c (.int .i64 (.lit 10)))⟩,
 ⟨some 10, true, none, iMov (.t 55)⟩])
 (cSeq (cOps [⟨some 56, false, none, iFaddr 0 (.t 9)⟩,
 ⟨some 57, false, none, iLoad (.t 56)⟩,
 ⟨some 58, false, none, iMov (.t 10)⟩,
 ⟨some 59, false, none, iFaddr 0 (.t 2)⟩,
 ⟨some 60, false, none, iFaddr 8 (.t 59)⟩,
 ⟨some 61, false, none, iFaddr 0 (.t 60)⟩,
 ⟨some 62, false, none, iLoad (.t 61)⟩,
 ⟨some 63, false, none, iArith .mul (.t 58) (.t 62)⟩,
 ⟨some 64, false, none, iArith .add (.t 57) (.t 63)⟩,
 ⟨some 65, false, none, iFaddr 1 (.t 9)⟩,
 ⟨some 66, false, none, iLoad (.t 65)⟩,
 ⟨some 67, false, none, iMov (.t 10)⟩,
 ⟨some 68, false, none, iFaddr 0 (.t 2)⟩,
 ⟨some 69, false, none, iFaddr 8 (.t 68)⟩,
 ⟨some 70, false, none, iFaddr 1 (.t 69)⟩,
 ⟨some 71, false, none, iLoad (.t 70)⟩,
 ⟨some 72, false, none, iArith .mul (.t 67) (.t 71)⟩,
 ⟨some 73, false, none, iArith .add (.t 66) (.t 72)⟩,
 ⟨some 74, false, none, iBuild [(.int .i64 (.lit 0)), (.int .i64 (.lit 0))] [(0, 1, (.t 64)), (1, 1, (.t 73))]⟩,
 ⟨none, false, none, iStore 2 (.t 4) (.t 74)⟩,
 ⟨some 5, true, none, iMov (.c (.int .i64 (.lit 0)))⟩])
 cRet))))))))), [.cell 4 true 2, .t 5]⟩
noncomputable def Tryz.kp113 : List Nat := [0, 1, 2, 3, 6, 7, 8, 9, 10, 16, 17, 18, 19]
noncomputable def Tryz.cf113 : CF := ⟨3, (cSeq (cOps [⟨some 3, true, none, iBox 111 (.t 0)⟩,
 ⟨some 6, true, none, iMov (.c .nilslice)⟩])
 (cSeq (cOps [⟨some 11, false, none, iMov (.t 1)⟩,
 ⟨some 12, false, none, iLenS (.t 11)⟩,
 ⟨some 13, false, none, iMkslice 175 [(.int .i64 (.lit 0)), (.int .i64 (.lit 0))] 16 (.t 12) (.t 12)⟩,
 ⟨some 7, true, none, iMov (.t 13)⟩])
 (cSeq (cOps [⟨some 14, false, none, iLoadN 25 (.t 3)⟩,
 ⟨some 15, false, none, iCall (.c (.func (.func 165) [] [])) [(.t 14)]⟩,
 ⟨some 8, true, none, iAlloc 175 [(.int .i64 (.lit 0)), (.int .i64 (.lit 0))]⟩,
 ⟨none, false, none, iStore 2 (.t 8) (.t 15)⟩])
 (cSeq (cSeq (cOps [⟨some 16, true, none, iMov (.t 1)⟩,
 ⟨some 17, true, none, iLenS (.t 16)⟩,
 ⟨some 18, true, none, iMov (.c (.int .i64 (.lit 0)))⟩])
 (cBlock 0 (cLoop (cSeq (cOps [⟨some 19, true, none, iCmp .lss (.t 18) (.t 17)⟩])
 (cSeq (cCond (.t 19) cSkip (cExit 0))
 (cSeq (cBlock 1 (cSeq (cOps [⟨some 20, false, none, iMov (.t 18)⟩,
 ⟨some 21, false, none, iIaddr 1 (.t 16) (.t 18)⟩,
 ⟨some 22, false, none, iLoad (.t 21)⟩,
 ⟨some 9, true, none, iMov (.t 20)⟩,
 ⟨some 10, true, none, iMov (.t 22)⟩])
 (cSeq (cOps [⟨some 23, false, none, iLoadN 25 (.t 3)⟩,
 ⟨some 24, false, none, iLoadN 2 (.t 8)⟩,
 ⟨some 25, false, none, iMov (.t 10)⟩,
 ⟨some 26, false, none, iMov (.t 2)⟩,
 ⟨some 27, false, none, iCall (.c (.func (.func 166) [] [])) [(.t 23), (.t 24), (.t 25), (.t 26)]⟩,
 ⟨none, false, none, iStore 2 (.t 8) (.t 27)⟩])
 (cOps [⟨some 28, false, none, iMov (.t 7)⟩,
 ⟨some 29, false, none, iMov (.t 9)⟩,
 ⟨some 30, false, none, iLoadN 2 (.t 8)⟩,
 ⟨some 31, false, none, iIaddr 2 (.t 28) (.t 29)⟩,
 ⟨none, false, none, iStore 2 (.t 31) (.t 30)⟩]))))
 (cOps [⟨some 32, false, none, iArith .add (.t 18) (.c (.int .i64 (.lit 1)))⟩,
 ⟨some 18, true, none, iMov (.t 32)⟩])))))))
 (cSeq (cOps [⟨some 33, false, none, iMov (.t 7)⟩,
 ⟨some 6, true, none, iMov (.t 33)⟩])
 cRet))))), [.t 6]⟩
noncomputable def Tryz.kp114 : List Nat := [0, 1, 2]
noncomputable def Tryz.cf114 : CF := ⟨1, (cSeq (cOps [⟨some 1, true, none, iBox 29 (.t 0)⟩,
 ⟨some 2, true, none, iMov (.c (.int .i64 (.lit 0)))⟩])
 (cSeq (cOps [⟨some 3, false, none, iFaddr 0 (.t 1)⟩,
 ⟨some 4, false, none, iLoad (.t 3)⟩,
 ⟨some 2, true, none, iMov (.t 4)⟩])
 cRet)), [.t 2]⟩
noncomputable def Tryz.kp115 : List Nat := [0, 1, 2]
noncomputable def Tryz.cf115 : CF := ⟨1, (cSeq (cOps [⟨some 1, true, none, iBox 29 (.t 0)⟩,
 ⟨some 2, true, none, iMov (.c (.int .i64 (.lit 0)))⟩])
 (cSeq (cOps [⟨some 3, false, none, iFaddr 1 (.t 1)⟩,
 ⟨some 4, false, none, iLoad (.t 3)⟩,
 ⟨some 2, true, none, iMov (.t 4)⟩])
 cRet)), [.t 2]⟩
noncomputable def Tryz.kp116 : List Nat := [0, 1, 2, 3, 4, 6, 7]
noncomputable def Tryz.cf116 : CF := ⟨3, (cSeq (cOps [⟨some 3, true, none, iBox 103 (.t 0)⟩,
 ⟨some 4, true, none, iBox 175 (.t 1)⟩,
 ⟨some 6, true, none, iAlloc 172 [(.int .i64 (.lit 0)), (.int .i64 (.lit 0))]⟩])
 (cSeq (dOps 0 [⟨⟨some 8, false, none, iFaddr 1 (.t 4)⟩, [4], false, 0, 1, none, []⟩,
 ⟨⟨some 9, false, none, iLoad (.t 8)⟩, [8], false, 0, 1, none, []⟩,
 ⟨⟨some 10, false, none, iMov (.t 2)⟩, [2], false, 0, 0, none, []⟩,
 ⟨⟨some 11, false, none, iFaddr 0 (.t 4)⟩, [4], false, 0, 0, none, []⟩,
 ⟨⟨some 12, false, none, iLoad (.t 11)⟩, [11], false, 0, 0, none, []⟩,
 ⟨⟨some 13, false, none, iFaddr 13 (.t 3)⟩, [3], false, 0, 0, none, []⟩,
 ⟨⟨some 14, false, none, iIaddrA 2 5 (.t 13) (.t 12)⟩, [13, 12], false, 0, 0, none, []⟩,
 ⟨⟨some 15, false, none, iLoadN 2 (.t 14)⟩, [14], false, 0, 0, none, []⟩,
 ⟨⟨some 16, false, none, iCall (.t 10) [(.t 15)]⟩, [10, 15], true, 0, 0, none, []⟩,
 ⟨⟨some 17, false, none, iArith .add (.t 9) (.t 16)⟩, [9, 16], false, 1, 1, none, []⟩,
 ⟨⟨some 7, true, none, iMov (.t 17)⟩, [17], false, 1, 1, none, []⟩])
 (cSeq (cOps [⟨some 18, false, none, iFaddr 0 (.t 4)⟩,
 ⟨some 19, false, none, iLoad (.t 18)⟩,
 ⟨some 20, false, none, iMov (.t 7)⟩,
 ⟨some 21, false, none, iArith .add (.t 20) (.c (.int .i64 (.lit 600)))⟩,
 ⟨some 22, false, none, iArith .sub (.t 21) (.c (.int .i64 (.lit 1)))⟩,
 ⟨some 23, false, none, iArith .quo (.t 22) (.c (.int .i64 (.lit 600)))⟩,
 ⟨some 24, false, none, iBuild [(.int .i64 (.lit 0)), (.int .i64 (.lit 0))] [(0, 1, (.t 19)), (1, 1, (.t 23))]⟩,
 ⟨none, false, none, iStore 2 (.t 6) (.t 24)⟩])
 cRet))), [.cell 6 true 2]⟩
noncomputable def Tryz.kp117 : List Nat := [0, 1, 2, 3, 4, 5, 6, 7, 9, 17, 19, 20, 21, 30]
noncomputable def Tryz.cf117 : CF := ⟨2, (cSeq (cOps [⟨some 2, true, none, iBox 103 (.t 0)⟩,
 ⟨some 3, true, none, iBox 175 (.t 1)⟩,
 ⟨some 4, true, none, iMov (.c (.int .i64 (.lit 0)))⟩])
 (cSeq (cSeq (cOps [⟨some 11, false, none, iFaddr 23 (.t 2)⟩,
 ⟨some 12, false, none, iLoad (.t 11)⟩,
 ⟨some 13, false, none, iLoadN 2 (.t 3)⟩,
 ⟨some 14, false, none, iLookup (.int .i64 (.lit 0)) true 2 [(0, .int), (1, .int)] true (.t 12) (.t 13)⟩,
 ⟨some 10, false, none, iMov (.t 14)⟩,
 ⟨some 15, false, none, iExtract 0 (.t 10)⟩,
 ⟨some 16, false, none, iExtract 1 (.t 10)⟩,
 ⟨some 5, true, none, iMov (.t 15)⟩,
 ⟨some 6, true, none, iMov (.t 16)⟩])
 (cSeq (cOps [⟨some 17, true, none, iMov (.t 6)⟩])
 (cCond (.t 17) (cSeq (cOps [⟨some 18, false, none, iMov (.t 5)⟩,
 ⟨some 4, true, none, iMov (.t 18)⟩])
 cRet) cSkip)))
 (cSeq (cOps [⟨some 7, true, none, iMov (.c (.int .i64 (.lit 0)))⟩])
 (cSeq (cSeq (cOps [⟨some 19, true, none, iBuild [.nilFunc, .nilFunc, .nilFunc] [(0, 1, (.c (.func (.func 167) [] []))), (1, 1, (.c (.func (.func 168) [] []))), (2, 1, (.c (.func (.func 169) [] [])))]⟩,
 ⟨some 20, true, none, iMov (.c (.int .i64 (.lit 0)))⟩])
 (cBlock 0 (cLoop (cSeq (cOps [⟨some 21, true, none, iCmp .lss (.t 20) (.c (.int .i64 (.lit 3)))⟩])
 (cSeq (cCond (.t 21) cSkip (cExit 0))
 (cSeq (cBlock 1 (cSeq (cOps [⟨some 22, false, none, iIndex false 1 3 (.t 19) (.t 20)⟩,
 ⟨some 9, true, none, iMov (.t 22)⟩])
 (cSeq (dOps 0 [⟨⟨some 23, false, none, iMov (.t 9)⟩, [9], false, 0, 1, none, []⟩,
 ⟨⟨some 24, false, none, iLoadN 24 (.t 2)⟩, [2], false, 0, 1, none, []⟩,
 ⟨⟨some 25, false, none, iLoadN 24 (.t 2)⟩, [2], false, 0, 0, none, []⟩,
 ⟨⟨some 26, false, none, iLoadN 2 (.t 3)⟩, [3], false, 0, 0, none, []⟩,
 ⟨⟨some 27, false, none, iCall (.c (.func (.func 116) [] [])) [(.t 25), (.t 26), (.c (.func (.func 115) [] []))]⟩, [25, 26], true, 0, 0, none, []⟩,
 ⟨⟨some 28, false, none, iCall (.t 23) [(.t 24), (.t 27)]⟩, [23, 24, 27], true, 1, 0, none, []⟩,
 ⟨⟨some 7, true, none, iMov (.t 28)⟩, [28], false, 2, 2, none, []⟩])
 (cSeq (cOps [⟨some 29, false, none, iMov (.t 7)⟩,
 ⟨some 30, true, none, iCmp .neq (.t 29) (.c (.int .i64 (.lit 0)))⟩])
 (cCond (.t 30) (cExit 0) cSkip)))))
 (cOps [⟨some 31, false, none, iArith .add (.t 20) (.c (.int .i64 (.lit 1)))⟩,
 ⟨some 20, true, none, iMov (.t 31)⟩])))))))
 (cSeq (cOps [⟨some 32, false, none, iFaddr 23 (.t 2)⟩,
 ⟨some 33, false, none, iLoad (.t 32)⟩,
 ⟨some 34, false, none, iLoadN 2 (.t 3)⟩,
 ⟨some 35, false, none, iMov (.t 7)⟩,
 ⟨none, false, none, iMapset true 2 [(0, .int), (1, .int)] (.t 33) (.t 34) (.t 35)⟩])
 (cSeq (cOps [⟨some 36, false, none, iMov (.t 7)⟩,
 ⟨some 4, true, none, iMov (.t 36)⟩])
 cRet)))))), [.t 4]⟩
noncomputable def Tryz.kp119 : List Nat := [0, 1, 4, 5, 6, 7, 11, 21]
noncomputable def Tryz.cf119 : CF := ⟨2, (cSeq (cOps [⟨some 4, true, none, iMov (.c (.int .i64 (.lit 0)))⟩])
 (cSeq (cOps [⟨some 8, false, none, iMov (.t 0)⟩,
 ⟨some 5, true, none, iMov (.c (.int .i64 (.lit 0)))⟩,
 ⟨some 6, true, none, iMov (.t 8)⟩])
 (cSeq (cBlock 0 (cLoop (cSeq (cSeq (cOps [⟨some 9, false, none, iMov (.t 5)⟩,
 ⟨some 10, false, none, iMov (.t 6)⟩,
 ⟨some 11, true, none, iCmp .lss (.t 9) (.t 10)⟩])
 (cCond (.t 11) cSkip (cExit 0)))
 (cBlock 1 (cSeq (cOps [⟨some 12, false, none, iMov (.t 5)⟩,
 ⟨some 13, false, none, iMov (.t 6)⟩,
 ⟨some 14, false, none, iArith .add (.t 12) (.t 13)⟩,
 ⟨some 15, false, none, iConv .u64 (.t 14)⟩,
 ⟨some 16, false, none, iShift .shr (.t 15) (.c (.int .u64 (.lit 1)))⟩,
 ⟨some 17, false, none, iConv .i64 (.t 16)⟩,
 ⟨some 7, true, none, iMov (.t 17)⟩])
 (cSeq (cOps [⟨some 18, false, none, iMov (.t 1)⟩,
 ⟨some 19, false, none, iMov (.t 7)⟩,
 ⟨some 20, false, none, iCall (.t 18) [(.t 19)]⟩,
 ⟨some 21, true, none, iNot (.t 20)⟩])
 (cCond (.t 21) (cOps [⟨some 22, false, none, iMov (.t 7)⟩,
 ⟨some 23, false, none, iArith .add (.t 22) (.c (.int .i64 (.lit 1)))⟩,
 ⟨some 5, true, none, iMov (.t 23)⟩]) (cOps [⟨some 24, false, none, iMov (.t 7)⟩,
 ⟨some 6, true, none, iMov (.t 24)⟩]))))))))
 (cSeq (cOps [⟨some 25, false, none, iMov (.t 5)⟩,
 ⟨some 4, true, none, iMov (.t 25)⟩])
 cRet)))), [.t 4]⟩
noncomputable def Tryz.kp120 : List Nat := [0, 1, 2, 4]
noncomputable def Tryz.cf120 : CF := ⟨3, (cSeq (cOps [⟨some 4, true, none, iMov (.c (.bool (.lit false)))⟩])
 (cSeq (cOps [⟨some 5, false, none, iLoadN 24 (.t 1)⟩,
 ⟨some 6, false, none, iMov (.t 0)⟩,
 ⟨some 7, false, none, iBuild [.nilslice, (.int .i64 (.lit 0)), .nilslice, (.int .i64 (.lit 0)), (.int .i64 (.lit 0)), .nilslice, (.int .i64 (.lit 0)), .nilslice, (.int .i64 (.lit 0)), (.int .i64 (.lit 0)), (.int .i64 (.lit 0)), (.int .i64 (.lit 0)), (.bool (.lit false)), (.int .i64 (.lit 0)), (.int .i64 (.lit 0)), (.int .i64 (.lit 0)), (.int .i64 (.lit 0)), (.int .i64 (.lit 0)), (.int .i64 (.lit 0)), (.int .i64 (.lit 0)), (.int .i64 (.lit 0)), (.int .i64 (.lit 0)), (.int .i64 (.lit 0)), .nilmap, (.int .i64 (.lit 0))] [(0, 24, (.t 5)), (24, 1, (.t 6))]⟩,
 ⟨some 8, false, none, iLoad (.t 2)⟩,
 ⟨some 9, false, none, iCall (.c (.func (.func 121) [] [])) [(.t 7), (.t 8)]⟩,
 ⟨some 10, false, none, iNot (.t 9)⟩,
 ⟨some 4, true, none, iMov (.t 10)⟩])
 cRet)), [.t 4]⟩
noncomputable def Tryz.kp121 : List Nat := [0, 1, 2, 4, 6, 9, 10, 11, 12, 19]
noncomputable def Tryz.cf121 : CF := ⟨2, (cSeq (cOps [⟨some 2, true, none, iBox 111 (.t 0)⟩,
 ⟨some 4, true, none, iMov (.c (.bool (.lit false)))⟩])
 (cSeq (cSeq (cOps [⟨some 7, false, none, iLoadN 25 (.t 2)⟩,
 ⟨some 8, false, none, iMov (.t 1)⟩,
 ⟨some 9, true, none, iCall (.c (.func (.func 113) [] [])) [(.t 7), (.t 8), (.c (.func (.func 115) [] []))]⟩,
 ⟨some 10, true, none, iLenS (.t 9)⟩,
 ⟨some 11, true, none, iMov (.c (.int .i64 (.lit 0)))⟩])
 (cBlock 0 (cLoop (cSeq (cOps [⟨some 12, true, none, iCmp .lss (.t 11) (.t 10)⟩])
 (cSeq (cCond (.t 12) cSkip (cExit 0))
 (cSeq (cBlock 1 (cSeq (cOps [⟨some 13, false, none, iIaddr 2 (.t 9) (.t 11)⟩,
 ⟨some 14, false, none, iLoadN 2 (.t 13)⟩,
 ⟨some 6, true, none, iAlloc 175 [(.int .i64 (.lit 0)), (.int .i64 (.lit 0))]⟩,
 ⟨none, false, none, iStore 2 (.t 6) (.t 14)⟩])
 (cSeq (cOps [⟨some 15, false, none, iFaddr 0 (.t 2)⟩,
 ⟨some 16, false, none, iLoadN 24 (.t 15)⟩,
 ⟨some 17, false, none, iLoadN 2 (.t 6)⟩,
 ⟨some 18, false, none, iCall (.c (.func (.func 117) [] [])) [(.t 16), (.t 17)]⟩,
 ⟨some 19, true, none, iCmp .neq (.t 18) (.c (.int .i64 (.lit 0)))⟩])
 (cCond (.t 19) (cSeq (cOps [⟨some 4, true, none, iMov (.c (.bool (.lit false)))⟩])
 cRet) cSkip))))
 (cOps [⟨some 20, false, none, iArith .add (.t 11) (.c (.int .i64 (.lit 1)))⟩,
 ⟨some 11, true, none, iMov (.t 20)⟩])))))))
 (cSeq (cOps [⟨some 4, true, none, iMov (.c (.bool (.lit true)))⟩])
 cRet))), [.t 4]⟩
noncomputable def Tryz.ra122008 : C := (cOps [⟨some 5, true, none, iMov (.t 8)⟩])
noncomputable def Tryz.rb122008 : C := (cBlock 1 (cSeq (cOps [⟨some 9, false, none, iFaddr 0 (.t 3)⟩,
 ⟨some 10, false, none, iLoad (.t 9)⟩,
 ⟨some 11, false, none, iMov (.t 5)⟩,
 ⟨some 12, false, none, iCall (.t 10) [(.t 11)]⟩,
 ⟨some 13, false, none, iMov (.t 12)⟩,
 ⟨some 14, false, some (13, true), iLoad (.t 4)⟩,
 ⟨some 15, false, some (13, true), iLenS (.t 14)⟩,
 ⟨some 16, false, some (13, true), iCmp .eql (.t 15) (.c (.int .i64 (.lit 0)))⟩,
 ⟨some 17, false, some (13, true), iMov (.t 16)⟩,
 ⟨some 18, false, some (17, false), iFaddr 1 (.t 3)⟩,
 ⟨some 19, false, some (17, false), iLoad (.t 18)⟩,
 ⟨some 20, false, some (17, false), iMov (.t 5)⟩,
 ⟨some 21, false, some (17, false), iLoad (.t 4)⟩,
 ⟨some 22, false, some (17, false), iCall (.t 19) [(.t 20), (.t 21)]⟩,
 ⟨some 23, false, some (13, true), iPick (.t 17) (.c (.bool (.lit true))) (.t 22)⟩,
 ⟨some 24, true, none, iPick (.t 13) (.t 23) (.c (.bool (.lit false)))⟩])
 (cCond (.t 24) (cOps [⟨some 25, false, none, iMov (.t 5)⟩,
 ⟨some 26, false, none, iCall (.c (.func (.func 172) [] [])) [(.t 25)]⟩,
 ⟨none, false, none, iStore 1 (.t 4) (.t 26)⟩]) cSkip)))
noncomputable def Tryz.kp122 : List Nat := [0, 1, 2, 3, 4, 5, 7, 8, 24]
noncomputable def Tryz.cf122 : CF := ⟨2, (cSeq (cOps [⟨some 2, true, none, iBox 103 (.t 0)⟩,
 ⟨some 3, true, none, iBox 183 (.t 1)⟩,
 ⟨some 4, true, none, iAlloc 32 [.nilslice]⟩])
 (cSeq (cSeq (cOps [⟨some 6, false, none, iLoadN 24 (.t 2)⟩,
 ⟨some 7, true, none, iCall (.c (.func (.func 171) [] [])) [(.t 6)]⟩])
 (cBlock 0 (cRange (.t 7) [8] 122008)))
 (cSeq (cOps [⟨some 27, false, none, iLoad (.t 4)⟩,
 ⟨none, false, none, iStore 1 (.t 4) (.t 27)⟩])
 cRet))), [.cell 4 false 1]⟩
noncomputable def Tryz.kp123 : List Nat := [0, 1, 2, 3, 6, 11]
noncomputable def Tryz.cf123 : CF := ⟨3, (cSeq (cOps [⟨some 3, true, none, iBox 111 (.t 0)⟩,
 ⟨some 6, true, none, iMov (.c (.bool (.lit false)))⟩])
 (cSeq (cSeq (cOps [⟨some 7, false, none, iMov (.t 1)⟩,
 ⟨some 8, false, none, iLenS (.t 7)⟩,
 ⟨some 9, false, none, iMov (.t 2)⟩,
 ⟨some 10, false, none, iLenS (.t 9)⟩,
 ⟨some 11, true, none, iCmp .neq (.t 8) (.t 10)⟩])
 (cCond (.t 11) (cSeq (cOps [⟨some 12, false, none, iMov (.t 1)⟩,
 ⟨some 13, false, none, iLenS (.t 12)⟩,
 ⟨some 14, false, none, iMov (.t 2)⟩,
 ⟨some 15, false, none, iLenS (.t 14)⟩,
 ⟨some 16, false, none, iCmp .gtr (.t 13) (.t 15)⟩,
 ⟨some 6, true, none, iMov (.t 16)⟩])
 cRet) cSkip))
 (cSeq (dOps 0 [⟨⟨some 17, false, none, iLoadN 25 (.t 3)⟩, [3], false, 0, 0, none, []⟩,
 ⟨⟨some 18, false, none, iMov (.t 1)⟩, [1], false, 0, 0, none, []⟩,
 ⟨⟨some 19, false, none, iCall (.c (.func (.func 173) [] [])) [(.t 17), (.t 18)]⟩, [17, 18], true, 0, 0, none, []⟩,
 ⟨⟨some 20, false, none, iLoadN 25 (.t 3)⟩, [3], false, 0, 1, none, []⟩,
 ⟨⟨some 21, false, none, iMov (.t 2)⟩, [2], false, 0, 1, none, []⟩,
 ⟨⟨some 22, false, none, iCall (.c (.func (.func 173) [] [])) [(.t 20), (.t 21)]⟩, [20, 21], true, 1, 0, none, []⟩,
 ⟨⟨some 23, false, none, iCmp .lss (.t 19) (.t 22)⟩, [19, 22], false, 2, 2, none, []⟩,
 ⟨⟨some 6, true, none, iMov (.t 23)⟩, [23], false, 2, 2, none, []⟩])
 cRet))), [.t 6]⟩
noncomputable def Tryz.kp125 : List Nat := [0, 1, 2, 4, 5, 6, 8, 9, 10, 11, 18]
noncomputable def Tryz.cf125 : CF := ⟨2, (cSeq (cOps [⟨some 2, true, none, iBox 185 (.t 0)⟩,
 ⟨some 4, true, none, iMov (.c .nilslice)⟩])
 (cSeq (cSeq (cOps [⟨some 7, false, none, iFaddr 25 (.t 2)⟩,
 ⟨some 8, true, none, iLoad (.t 7)⟩,
 ⟨some 9, true, none, iLenS (.t 8)⟩,
 ⟨some 10, true, none, iMov (.c (.int .i64 (.lit 0)))⟩])
 (cBlock 0 (cLoop (cSeq (cOps [⟨some 11, true, none, iCmp .lss (.t 10) (.t 9)⟩])
 (cSeq (cCond (.t 11) cSkip (cExit 0))
 (cSeq (cBlock 1 (cSeq (cOps [⟨some 12, false, none, iMov (.t 10)⟩,
 ⟨some 13, false, none, iIaddr 1 (.t 8) (.t 10)⟩,
 ⟨some 14, false, none, iLoad (.t 13)⟩,
 ⟨some 5, true, none, iMov (.t 12)⟩,
 ⟨some 6, true, none, iMov (.t 14)⟩])
 (cSeq (cOps [⟨some 15, false, none, iMov (.t 1)⟩,
 ⟨some 16, false, none, iMov (.t 6)⟩,
 ⟨some 17, false, none, iCall (.c (.func (.func 174) [] [])) [(.t 15), (.t 16)]⟩,
 ⟨some 18, true, none, iNot (.t 17)⟩])
 (cCond (.t 18) (cOps [⟨some 19, false, none, iMov (.t 4)⟩,
 ⟨some 20, false, none, iMov (.t 5)⟩,
 ⟨some 21, false, none, iBslice 3 [(.int .i64 (.lit 0))] 1 [(0, 1, (.t 20))]⟩,
 ⟨some 22, false, none, iAppend 3 1 8 (.t 19) (.t 21)⟩,
 ⟨some 4, true, none, iMov (.t 22)⟩]) cSkip))))
 (cOps [⟨some 23, false, none, iArith .add (.t 10) (.c (.int .i64 (.lit 1)))⟩,
 ⟨some 10, true, none, iMov (.t 23)⟩])))))))
 (cSeq (cOps [⟨some 24, false, none, iMov (.t 4)⟩,
 ⟨some 4, true, none, iMov (.t 24)⟩])
 cRet))), [.t 4]⟩
noncomputable def Tryz.kp126 : List Nat := [0, 1, 2, 4, 5, 7, 10, 11, 12, 13, 25]
noncomputable def Tryz.cf126 : CF := ⟨2, (cSeq (cOps [⟨some 2, true, none, iBox 185 (.t 0)⟩,
 ⟨some 4, true, none, iMov (.c (.bool (.lit false)))⟩])
 (cSeq (cOps [⟨some 8, false, none, iMov (.t 1)⟩,
 ⟨some 5, true, none, iMov (.t 8)⟩])
 (cSeq (cSeq (cOps [⟨some 9, false, none, iFaddr 25 (.t 2)⟩,
 ⟨some 10, true, none, iLoad (.t 9)⟩,
 ⟨some 11, true, none, iLenS (.t 10)⟩,
 ⟨some 12, true, none, iMov (.c (.int .i64 (.lit 0)))⟩])
 (cBlock 0 (cLoop (cSeq (cOps [⟨some 13, true, none, iCmp .lss (.t 12) (.t 11)⟩])
 (cSeq (cCond (.t 13) cSkip (cExit 0))
 (cSeq (cBlock 1 (cSeq (cOps [⟨some 14, false, none, iIaddr 1 (.t 10) (.t 12)⟩,
 ⟨some 15, false, none, iLoad (.t 14)⟩,
 ⟨some 7, true, none, iMov (.t 15)⟩])
 (cSeq (cOps [⟨some 16, false, none, iMov (.t 5)⟩,
 ⟨some 17, false, none, iLenS (.t 16)⟩,
 ⟨some 18, false, none, iCmp .gtr (.t 17) (.c (.int .i64 (.lit 0)))⟩,
 ⟨some 19, false, none, iMov (.t 18)⟩,
 ⟨some 20, false, some (19, true), iMov (.t 5)⟩,
 ⟨some 21, false, some (19, true), iIaddr 1 (.t 20) (.c (.int .i64 (.lit 0)))⟩,
 ⟨some 22, false, some (19, true), iLoad (.t 21)⟩,
 ⟨some 23, false, some (19, true), iMov (.t 7)⟩,
 ⟨some 24, false, some (19, true), iCmp .eql (.t 22) (.t 23)⟩,
 ⟨some 25, true, none, iPick (.t 19) (.t 24) (.c (.bool (.lit false)))⟩])
 (cCond (.t 25) (cOps [⟨some 26, false, none, iMov (.t 5)⟩,
 ⟨some 27, false, none, iSlice 1 (.t 26) (some (.c (.int .i64 (.lit 1)))) none none⟩,
 ⟨some 5, true, none, iMov (.t 27)⟩]) cSkip))))
 (cOps [⟨some 28, false, none, iArith .add (.t 12) (.c (.int .i64 (.lit 1)))⟩,
 ⟨some 12, true, none, iMov (.t 28)⟩])))))))
 (cSeq (cOps [⟨some 29, false, none, iMov (.t 5)⟩,
 ⟨some 30, false, none, iLenS (.t 29)⟩,
 ⟨some 31, false, none, iCmp .eql (.t 30) (.c (.int .i64 (.lit 0)))⟩,
 ⟨some 32, false, none, iMov (.t 31)⟩,
 ⟨some 33, false, some (32, true), iFaddr 0 (.t 2)⟩,
 ⟨some 34, false, some (32, true), iLoadN 25 (.t 33)⟩,
 ⟨some 35, false, some (32, true), iMov (.t 1)⟩,
 ⟨some 36, false, some (32, true), iCall (.c (.func (.func 121) [] [])) [(.t 34), (.t 35)]⟩,
 ⟨some 37, false, none, iPick (.t 32) (.t 36) (.c (.bool (.lit false)))⟩,
 ⟨some 4, true, none, iMov (.t 37)⟩])
 cRet)))), [.t 4]⟩
noncomputable def Tryz.kp127 : List Nat := [0, 1, 2, 3, 6, 11]
noncomputable def Tryz.cf127 : CF := ⟨3, (cSeq (cOps [⟨some 3, true, none, iBox 185 (.t 0)⟩,
 ⟨some 6, true, none, iMov (.c (.bool (.lit false)))⟩])
 (cSeq (cSeq (cOps [⟨some 7, false, none, iMov (.t 1)⟩,
 ⟨some 8, false, none, iLenS (.t 7)⟩,
 ⟨some 9, false, none, iMov (.t 2)⟩,
 ⟨some 10, false, none, iLenS (.t 9)⟩,
 ⟨some 11, true, none, iCmp .neq (.t 8) (.t 10)⟩])
 (cCond (.t 11) (cSeq (cOps [⟨some 12, false, none, iMov (.t 1)⟩,
 ⟨some 13, false, none, iLenS (.t 12)⟩,
 ⟨some 14, false, none, iMov (.t 2)⟩,
 ⟨some 15, false, none, iLenS (.t 14)⟩,
 ⟨some 16, false, none, iCmp .gtr (.t 13) (.t 15)⟩,
 ⟨some 6, true, none, iMov (.t 16)⟩])
 cRet) cSkip))
 (cSeq (dOps 0 [⟨⟨some 17, false, none, iLoadN 26 (.t 3)⟩, [3], false, 0, 0, none, []⟩,
 ⟨⟨some 18, false, none, iMov (.t 1)⟩, [1], false, 0, 0, none, []⟩,
 ⟨⟨some 19, false, none, iCall (.c (.func (.func 125) [] [])) [(.t 17), (.t 18)]⟩, [17, 18], true, 0, 0, none, []⟩,
 ⟨⟨some 20, false, none, iLoadN 26 (.t 3)⟩, [3], false, 0, 1, none, []⟩,
 ⟨⟨some 21, false, none, iMov (.t 2)⟩, [2], false, 0, 1, none, []⟩,
 ⟨⟨some 22, false, none, iCall (.c (.func (.func 125) [] [])) [(.t 20), (.t 21)]⟩, [20, 21], true, 1, 0, none, []⟩,
 ⟨⟨some 23, false, none, iCall (.c (.func (.func 175) [] [])) [(.t 19), (.t 22)]⟩, [19, 22], true, 2, 0, none, []⟩,
 ⟨⟨some 24, false, none, iCmp .lss (.t 23) (.c (.int .i64 (.lit 0)))⟩, [23], false, 3, 3, none, []⟩,
 ⟨⟨some 6, true, none, iMov (.t 24)⟩, [24], false, 3, 3, none, []⟩])
 cRet))), [.t 6]⟩
noncomputable def Tryz.kp128 : List Nat := [0, 1, 2, 4, 5, 6, 16, 18, 19, 20, 21, 26, 32, 33, 34, 42]
noncomputable def Tryz.cf128 : CF := ⟨1, (cSeq (cOps [⟨some 1, true, none, iBox 68 (.t 0)⟩,
 ⟨some 2, true, none, iMov (.c (.bool (.lit false)))⟩])
 (cSeq (cSeq (cOps [⟨some 7, false, none, iFaddr 0 (.t 1)⟩,
 ⟨some 8, false, none, iLoad (.t 7)⟩,
 ⟨some 9, false, none, iLenS (.t 8)⟩,
 ⟨some 10, false, none, iCmp .lss (.t 9) (.c (.int .i64 (.lit 1)))⟩,
 ⟨some 11, false, none, iMov (.t 10)⟩,
 ⟨some 12, false, some (11, false), iFaddr 0 (.t 1)⟩,
 ⟨some 13, false, some (11, false), iLoad (.t 12)⟩,
 ⟨some 14, false, some (11, false), iLenS (.t 13)⟩,
 ⟨some 15, false, some (11, false), iCmp .gtr (.t 14) (.c (.int .i64 (.lit 6)))⟩,
 ⟨some 16, true, none, iPick (.t 11) (.c (.bool (.lit true))) (.t 15)⟩])
 (cCond (.t 16) (cSeq (cOps [⟨some 2, true, none, iMov (.c (.bool (.lit false)))⟩])
 cRet) cSkip))
 (cSeq (cSeq (cOps [⟨some 17, false, none, iFaddr 0 (.t 1)⟩,
 ⟨some 18, true, none, iLoad (.t 17)⟩,
 ⟨some 19, true, none, iLenS (.t 18)⟩,
 ⟨some 20, true, none, iMov (.c (.int .i64 (.lit 0)))⟩])
 (cBlock 0 (cLoop (cSeq (cOps [⟨some 21, true, none, iCmp .lss (.t 20) (.t 19)⟩])
 (cSeq (cCond (.t 21) cSkip (cExit 0))
 (cSeq (cBlock 1 (cSeq (cOps [⟨some 22, false, none, iIaddr 6 (.t 18) (.t 20)⟩,
 ⟨some 23, false, none, iLoadN 6 (.t 22)⟩,
 ⟨some 4, true, none, iAlloc 130 [(.int .i64 (.lit 0)), (.int .i64 (.lit 0)), (.int .i64 (.lit 0)), (.int .i64 (.lit 0)), (.int .i64 (.lit 0)), (.int .i64 (.lit 0))]⟩,
 ⟨none, false, none, iStore 6 (.t 4) (.t 23)⟩])
 (cSeq (cOps [⟨some 24, false, none, iLoadN 6 (.t 4)⟩,
 ⟨some 25, false, none, iCall (.c (.func (.func 176) [] [])) [(.t 24)]⟩,
 ⟨some 26, true, none, iNot (.t 25)⟩])
 (cCond (.t 26) (cSeq (cOps [⟨some 2, true, none, iMov (.c (.bool (.lit false)))⟩])
 cRet) cSkip))))
 (cOps [⟨some 27, false, none, iArith .add (.t 20) (.c (.int .i64 (.lit 1)))⟩,
 ⟨some 20, true, none, iMov (.t 27)⟩])))))))
 (cSeq (cSeq (cOps [⟨some 28, false, none, iFaddr 1 (.t 1)⟩,
 ⟨some 29, false, none, iLoadN 2 (.t 28)⟩,
 ⟨some 30, false, none, iFaddr 3 (.t 1)⟩,
 ⟨some 31, false, none, iLoadN 2 (.t 30)⟩,
 ⟨some 32, true, none, iBuild [(.int .i64 (.lit 0)), (.int .i64 (.lit 0)), (.int .i64 (.lit 0)), (.int .i64 (.lit 0))] [(0, 2, (.t 29)), (2, 2, (.t 31))]⟩,
 ⟨some 33, true, none, iMov (.c (.int .i64 (.lit 0)))⟩])
 (cBlock 2 (cLoop (cSeq (cOps [⟨some 34, true, none, iCmp .lss (.t 33) (.c (.int .i64 (.lit 2)))⟩])
 (cSeq (cCond (.t 34) cSkip (cExit 2))
 (cSeq (cBlock 3 (cSeq (cOps [⟨some 35, false, none, iMov (.t 33)⟩,
 ⟨some 36, false, none, iIndex true 2 2 (.t 32) (.t 33)⟩,
 ⟨some 6, true, none, iAlloc 29 [(.int .i64 (.lit 0)), (.int .i64 (.lit 0))]⟩,
 ⟨some 5, true, none, iMov (.t 35)⟩,
 ⟨none, false, none, iStore 2 (.t 6) (.t 36)⟩])
 (cSeq (dOps 0 [⟨⟨some 37, false, none, iLoadN 2 (.t 6)⟩, [6], false, 0, 0, none, []⟩,
 ⟨⟨some 38, false, none, iMov (.t 5)⟩, [5], false, 0, 0, none, []⟩,
 ⟨⟨some 39, false, none, iIaddrA 2 2 (.c (.ptr 3 0)) (.t 38)⟩, [38], false, 0, 0, none, []⟩,
 ⟨⟨some 40, false, none, iLoadN 2 (.t 39)⟩, [39], false, 0, 0, none, []⟩,
 ⟨⟨some 41, false, none, iCall (.c (.func (.func 177) [] [])) [(.t 37), (.t 40)]⟩, [37, 40], true, 0, 0, none, []⟩,
 ⟨⟨some 42, true, none, iNot (.t 41)⟩, [41], false, 1, 1, none, []⟩])
 (cCond (.t 42) (cSeq (cOps [⟨some 2, true, none, iMov (.c (.bool (.lit false)))⟩])
 cRet) cSkip))))
 (cOps [⟨some 43, false, none, iArith .add (.t 33) (.c (.int .i64 (.lit 1)))⟩,
 ⟨some 33, true, none, iMov (.t 43)⟩])))))))
 (cSeq (cOps [⟨some 44, false, none, iFaddr 5 (.t 1)⟩,
 ⟨some 45, false, none, iLoad (.t 44)⟩,
 ⟨some 46, false, none, iCmp .geq (.t 45) (.c (.int .i64 (.lit 1)))⟩,
 ⟨some 47, false, none, iMov (.t 46)⟩,
 ⟨some 48, false, some (47, true), iFaddr 5 (.t 1)⟩,
 ⟨some 49, false, some (47, true), iLoad (.t 48)⟩,
 ⟨some 50, false, some (47, true), iCmp .leq (.t 49) (.c (.int .i64 (.lit 6000)))⟩,
 ⟨some 51, false, none, iPick (.t 47) (.t 50) (.c (.bool (.lit false)))⟩,
 ⟨some 2, true, none, iMov (.t 51)⟩])
 cRet))))), [.t 2]⟩
noncomputable def Tryz.ra129017 : C := (cOps [⟨some 6, true, none, iMov (.t 17)⟩])
noncomputable def Tryz.rb129017 : C := (cBlock 1 (cSeq (cOps [⟨some 18, false, none, iMov (.t 6)⟩,
 ⟨some 19, false, none, iCall (.c (.func (.func 172) [] [])) [(.t 18)]⟩,
 ⟨none, false, none, iStore 1 (.t 2) (.t 19)⟩,
 ⟨none, false, none, iStore 1 (.t 3) (.c (.int .i64 (.lit 0)))⟩])
 cRet))
noncomputable def Tryz.kp129 : List Nat := [0, 1, 2, 3, 4, 5, 6, 13, 16, 17]
noncomputable def Tryz.cf129 : CF := ⟨1, (cSeq (cOps [⟨some 1, true, none, iBox 68 (.t 0)⟩,
 ⟨some 2, true, none, iAlloc 32 [.nilslice]⟩,
 ⟨some 3, true, none, iAlloc 34 [(.int .i64 (.lit 0))]⟩])
 (cSeq (cOps [⟨some 8, false, none, iLoadN 6 (.t 1)⟩,
 ⟨some 9, false, none, iCall (.c (.func (.func 178) [] [])) [(.t 8)]⟩,
 ⟨some 7, false, none, iMov (.t 9)⟩,
 ⟨some 10, false, none, iExtract 0 (.t 7)⟩,
 ⟨some 11, false, none, iExtract 1 (.t 7)⟩,
 ⟨some 4, true, none, iAlloc 247 [.nilslice, (.int .i64 (.lit 0)), (.int .i64 (.lit 0)), (.int .i64 (.lit 0)), (.int .i64 (.lit 0)), (.int .i64 (.lit 0)), .nilmap]⟩,
 ⟨none, false, none, iStore 7 (.t 4) (.t 10)⟩,
 ⟨some 5, true, none, iMov (.t 11)⟩])
 (cSeq (cSeq (cOps [⟨some 12, false, none, iMov (.t 5)⟩,
 ⟨some 13, true, none, iCmp .neq (.t 12) (.c (.int .i64 (.lit 0)))⟩])
 (cCond (.t 13) (cSeq (cOps [⟨some 14, false, none, iMov (.t 5)⟩,
 ⟨none, false, none, iStore 1 (.t 2) (.c .nilslice)⟩,
 ⟨none, false, none, iStore 1 (.t 3) (.t 14)⟩])
 cRet) cSkip))
 (cSeq (cSeq (cOps [⟨some 15, false, none, iLoadN 7 (.t 4)⟩,
 ⟨some 16, true, none, iCall (.c (.func (.func 179) [] [])) [(.t 15)]⟩])
 (cBlock 0 (cRange (.t 16) [17] 129017)))
 (cSeq (cOps [⟨none, false, none, iStore 1 (.t 2) (.c .nilslice)⟩,
 ⟨none, false, none, iStore 1 (.t 3) (.c (.int .i64 (.lit 4)))⟩])
 cRet))))), [.cell 2 false 1, .cell 3 false 1]⟩
noncomputable def Tryz.kp130 : List Nat := [0, 1, 2, 3, 6, 7, 8, 9, 16, 26]
noncomputable def Tryz.cf130 : CF := ⟨3, (cSeq (cOps [⟨some 3, true, none, iBox 68 (.t 0)⟩,
 ⟨some 6, true, none, iMov (.c .nilslice)⟩,
 ⟨some 7, true, none, iMov (.c (.int .i64 (.lit 0)))⟩])
 (cSeq (cOps [⟨some 11, false, none, iLoadN 6 (.t 3)⟩,
 ⟨some 12, false, none, iCall (.c (.func (.func 178) [] [])) [(.t 11)]⟩,
 ⟨some 10, false, none, iMov (.t 12)⟩,
 ⟨some 13, false, none, iExtract 0 (.t 10)⟩,
 ⟨some 14, false, none, iExtract 1 (.t 10)⟩,
 ⟨some 8, true, none, iAlloc 247 [.nilslice, (.int .i64 (.lit 0)), (.int .i64 (.lit 0)), (.int .i64 (.lit 0)), (.int .i64 (.lit 0)), (.int .i64 (.lit 0)), .nilmap]⟩,
 ⟨none, false, none, iStore 7 (.t 8) (.t 13)⟩,
 ⟨some 9, true, none, iMov (.t 14)⟩])
 (cSeq (cSeq (cOps [⟨some 15, false, none, iMov (.t 9)⟩,
 ⟨some 16, true, none, iCmp .neq (.t 15) (.c (.int .i64 (.lit 0)))⟩])
 (cCond (.t 16) (cSeq (cOps [⟨some 17, false, none, iMov (.t 9)⟩,
 ⟨some 6, true, none, iMov (.c .nilslice)⟩,
 ⟨some 7, true, none, iMov (.t 17)⟩])
 cRet) cSkip))
 (cSeq (cSeq (cOps [⟨some 18, false, none, iLoadN 7 (.t 8)⟩,
 ⟨some 19, false, none, iMov (.t 1)⟩,
 ⟨some 20, false, none, iCall (.c (.func (.func 180) [] [])) [(.t 18), (.t 19)]⟩,
 ⟨some 21, false, none, iNot (.t 20)⟩,
 ⟨some 22, false, none, iMov (.t 21)⟩,
 ⟨some 23, false, some (22, false), iMov (.t 2)⟩,
 ⟨some 24, false, some (22, false), iCall (.c (.func (.func 181) [] [])) [(.t 23)]⟩,
 ⟨some 25, false, some (22, false), iNot (.t 24)⟩,
 ⟨some 26, true, none, iPick (.t 22) (.c (.bool (.lit true))) (.t 25)⟩])
 (cCond (.t 26) (cSeq (cOps [⟨some 6, true, none, iMov (.c .nilslice)⟩,
 ⟨some 7, true, none, iMov (.c (.int .i64 (.lit 11)))⟩])
 cRet) cSkip))
 (cSeq (cOps [⟨some 27, false, none, iLoadN 7 (.t 8)⟩,
 ⟨some 28, false, none, iMov (.t 1)⟩,
 ⟨some 29, false, none, iMov (.t 2)⟩,
 ⟨some 30, false, none, iCall (.c (.func (.func 182) [] [])) [(.t 27), (.t 28), (.t 29)]⟩,
 ⟨some 31, false, none, iExtract 0 (.t 30)⟩,
 ⟨some 32, false, none, iExtract 1 (.t 30)⟩,
 ⟨some 6, true, none, iMov (.t 31)⟩,
 ⟨some 7, true, none, iMov (.t 32)⟩])
 cRet))))), [.t 6, .t 7]⟩
noncomputable def Tryz.kp131 : List Nat := [0, 1, 2, 3, 6, 7, 8, 9, 16, 27]
noncomputable def Tryz.cf131 : CF := ⟨3, (cSeq (cOps [⟨some 3, true, none, iBox 68 (.t 0)⟩,
 ⟨some 6, true, none, iAlloc 29 [(.int .i64 (.lit 0)), (.int .i64 (.lit 0))]⟩,
 ⟨some 7, true, none, iMov (.c (.int .i64 (.lit 0)))⟩])
 (cSeq (cOps [⟨some 11, false, none, iLoadN 6 (.t 3)⟩,
 ⟨some 12, false, none, iCall (.c (.func (.func 178) [] [])) [(.t 11)]⟩,
 ⟨some 10, false, none, iMov (.t 12)⟩,
 ⟨some 13, false, none, iExtract 0 (.t 10)⟩,
 ⟨some 14, false, none, iExtract 1 (.t 10)⟩,
 ⟨some 8, true, none, iAlloc 247 [.nilslice, (.int .i64 (.lit 0)), (.int .i64 (.lit 0)), (.int .i64 (.lit 0)), (.int .i64 (.lit 0)), (.int .i64 (.lit 0)), .nilmap]⟩,
 ⟨none, false, none, iStore 7 (.t 8) (.t 13)⟩,
 ⟨some 9, true, none, iMov (.t 14)⟩])
 (cSeq (cSeq (cOps [⟨some 15, false, none, iMov (.t 9)⟩,
 ⟨some 16, true, none, iCmp .neq (.t 15) (.c (.int .i64 (.lit 0)))⟩])
 (cCond (.t 16) (cSeq (cOps [⟨some 17, false, none, iBuild [(.int .i64 (.lit 0)), (.int .i64 (.lit 0))] []⟩,
 ⟨some 18, false, none, iMov (.t 9)⟩,
 ⟨none, false, none, iStore 2 (.t 6) (.t 17)⟩,
 ⟨some 7, true, none, iMov (.t 18)⟩])
 cRet) cSkip))
 (cSeq (cSeq (cOps [⟨some 19, false, none, iLoadN 7 (.t 8)⟩,
 ⟨some 20, false, none, iMov (.t 1)⟩,
 ⟨some 21, false, none, iCall (.c (.func (.func 183) [] [])) [(.t 19), (.t 20)]⟩,
 ⟨some 22, false, none, iNot (.t 21)⟩,
 ⟨some 23, false, none, iMov (.t 22)⟩,
 ⟨some 24, false, some (23, false), iMov (.t 2)⟩,
 ⟨some 25, false, some (23, false), iCall (.c (.func (.func 181) [] [])) [(.t 24)]⟩,
 ⟨some 26, false, some (23, false), iNot (.t 25)⟩,
 ⟨some 27, true, none, iPick (.t 23) (.c (.bool (.lit true))) (.t 26)⟩])
 (cCond (.t 27) (cSeq (cOps [⟨some 28, false, none, iBuild [(.int .i64 (.lit 0)), (.int .i64 (.lit 0))] []⟩,
 ⟨none, false, none, iStore 2 (.t 6) (.t 28)⟩,
 ⟨some 7, true, none, iMov (.c (.int .i64 (.lit 11)))⟩])
 cRet) cSkip))
 (cSeq (cOps [⟨some 29, false, none, iLoadN 7 (.t 8)⟩,
 ⟨some 30, false, none, iMov (.t 1)⟩,
 ⟨some 31, false, none, iMov (.t 2)⟩,
 ⟨some 32, false, none, iCall (.c (.func (.func 184) [] [])) [(.t 29), (.t 30), (.t 31)]⟩,
 ⟨none, false, none, iStore 2 (.t 6) (.t 32)⟩,
 ⟨some 7, true, none, iMov (.c (.int .i64 (.lit 0)))⟩])
 cRet))))), [.cell 6 true 2, .t 7]⟩
noncomputable def Tryz.kp132 : List Nat := [0, 2]
noncomputable def Tryz.cf132 : CF := ⟨1, (cSeq (cOps [⟨some 2, true, none, iMov (.c (.bool (.lit false)))⟩])
 (cSeq (cOps [⟨some 3, false, none, iMov (.t 0)⟩,
 ⟨some 4, false, none, iCmp .geq (.t 3) (.c (.int .i64 (.lit 0)))⟩,
 ⟨some 5, false, none, iMov (.t 4)⟩,
 ⟨some 6, false, some (5, true), iMov (.t 0)⟩,
 ⟨some 7, false, some (5, true), iCmp .leq (.t 6) (.c (.int .i64 (.lit 999)))⟩,
 ⟨some 8, false, none, iPick (.t 5) (.t 7) (.c (.bool (.lit false)))⟩,
 ⟨some 2, true, none, iMov (.t 8)⟩])
 cRet)), [.t 2]⟩
noncomputable def Tryz.kp133 : List Nat := [0, 2]
noncomputable def Tryz.cf133 : CF := ⟨1, (cSeq (cOps [⟨some 2, true, none, iMov (.c (.bool (.lit false)))⟩])
 (cSeq (cOps [⟨some 3, false, none, iMov (.t 0)⟩,
 ⟨some 4, false, none, iCmp .geq (.t 3) (.c (.int .i64 (.lit 0)))⟩,
 ⟨some 5, false, none, iMov (.t 4)⟩,
 ⟨some 6, false, some (5, true), iMov (.t 0)⟩,
 ⟨some 7, false, some (5, true), iCmp .lss (.t 6) (.c (.int .i64 (.lit 16)))⟩,
 ⟨some 8, false, none, iPick (.t 5) (.t 7) (.c (.bool (.lit false)))⟩,
 ⟨some 2, true, none, iMov (.t 8)⟩])
 cRet)), [.t 2]⟩
noncomputable def Tryz.kp134 : List Nat := [0, 2]
noncomputable def Tryz.cf134 : CF := ⟨1, (cSeq (cOps [⟨some 2, true, none, iMov (.c (.bool (.lit false)))⟩])
 (cSeq (cOps [⟨some 3, false, none, iMov (.t 0)⟩,
 ⟨some 4, false, none, iCmp .geq (.t 3) (.c (.int .i64 (.lit 0)))⟩,
 ⟨some 5, false, none, iMov (.t 4)⟩,
 ⟨some 6, false, some (5, true), iMov (.t 0)⟩,
 ⟨some 7, false, some (5, true), iCmp .leq (.t 6) (.c (.int .i64 (.lit 1439)))⟩,
 ⟨some 8, false, none, iPick (.t 5) (.t 7) (.c (.bool (.lit false)))⟩,
 ⟨some 2, true, none, iMov (.t 8)⟩])
 cRet)), [.t 2]⟩
noncomputable def Tryz.kp135 : List Nat := [0, 1, 2, 3, 4, 6, 11, 12, 13, 19]
noncomputable def Tryz.cf135 : CF := ⟨2, (cSeq (cOps [⟨some 2, true, none, iBox 151 (.t 0)⟩,
 ⟨some 3, true, none, iBox 189 (.t 1)⟩,
 ⟨some 4, true, none, iMov (.c (.int .i64 (.lit 0)))⟩])
 (cSeq (cSeq (cOps [⟨some 7, false, none, iBuild [(.int .i64 (.lit 0)), .nilFunc] [(0, 1, (.c (.int .i64 (.lit 1)))), (1, 1, (.c (.func (.func 185) [] [])))]⟩,
 ⟨some 8, false, none, iBuild [(.int .i64 (.lit 0)), .nilFunc] [(0, 1, (.c (.int .i64 (.lit 2)))), (1, 1, (.c (.func (.func 186) [] [])))]⟩,
 ⟨some 9, false, none, iBuild [(.int .i64 (.lit 0)), .nilFunc] [(0, 1, (.c (.int .i64 (.lit 3)))), (1, 1, (.c (.func (.func 187) [] [])))]⟩,
 ⟨some 10, false, none, iBuild [(.int .i64 (.lit 0)), .nilFunc] [(0, 1, (.c (.int .i64 (.lit 4)))), (1, 1, (.c (.func (.func 188) [] [])))]⟩,
 ⟨some 11, true, none, iBuild [(.int .i64 (.lit 0)), .nilFunc, (.int .i64 (.lit 0)), .nilFunc, (.int .i64 (.lit 0)), .nilFunc, (.int .i64 (.lit 0)), .nilFunc] [(0, 2, (.t 7)), (2, 2, (.t 8)), (4, 2, (.t 9)), (6, 2, (.t 10))]⟩,
 ⟨some 12, true, none, iMov (.c (.int .i64 (.lit 0)))⟩])
 (cBlock 0 (cLoop (cSeq (cOps [⟨some 13, true, none, iCmp .lss (.t 12) (.c (.int .i64 (.lit 4)))⟩])
 (cSeq (cCond (.t 13) cSkip (cExit 0))
 (cSeq (cBlock 1 (cSeq (cOps [⟨some 14, false, none, iIndex true 2 4 (.t 11) (.t 12)⟩,
 ⟨some 6, true, none, iAlloc 254 [(.int .i64 (.lit 0)), .nilFunc]⟩,
 ⟨none, false, none, iStore 2 (.t 6) (.t 14)⟩])
 (cSeq (cOps [⟨some 15, false, none, iFaddr 1 (.t 6)⟩,
 ⟨some 16, false, none, iLoad (.t 15)⟩,
 ⟨some 17, false, none, iLoadN 6 (.t 2)⟩,
 ⟨some 18, false, none, iLoadN 3 (.t 3)⟩,
 ⟨some 19, true, none, iCall (.t 16) [(.t 17), (.t 18)]⟩])
 (cCond (.t 19) (cSeq (cOps [⟨some 20, false, none, iFaddr 0 (.t 6)⟩,
 ⟨some 21, false, none, iLoad (.t 20)⟩,
 ⟨some 4, true, none, iMov (.t 21)⟩])
 cRet) cSkip))))
 (cOps [⟨some 22, false, none, iArith .add (.t 12) (.c (.int .i64 (.lit 1)))⟩,
 ⟨some 12, true, none, iMov (.t 22)⟩])))))))
 (cSeq (cOps [⟨some 4, true, none, iMov (.c (.int .i64 (.lit 0)))⟩])
 cRet))), [.t 4]⟩
noncomputable def Tryz.kp148 : List Nat := [0, 1, 2, 3, 4, 26, 27, 28, 36]
noncomputable def Tryz.cf148 : CF := ⟨1, (cSeq (cOps [⟨some 1, true, none, iBox 151 (.t 0)⟩,
 ⟨some 2, true, none, iMov (.c (.bool (.lit false)))⟩])
 (cSeq (cSeq (cOps [⟨some 5, false, none, iFaddr 0 (.t 1)⟩,
 ⟨some 6, false, none, iFaddr 0 (.t 5)⟩,
 ⟨some 7, false, none, iLoad (.t 6)⟩,
 ⟨some 8, false, none, iLenS (.t 7)⟩,
 ⟨some 9, false, none, iFaddr 0 (.t 1)⟩,
 ⟨some 10, false, none, iFaddr 1 (.t 9)⟩,
 ⟨some 11, false, none, iLoad (.t 10)⟩,
 ⟨some 12, false, none, iFaddr 0 (.t 1)⟩,
 ⟨some 13, false, none, iFaddr 2 (.t 12)⟩,
 ⟨some 14, false, none, iLoad (.t 13)⟩,
 ⟨some 15, false, none, iLenS (.t 14)⟩,
 ⟨some 16, false, none, iFaddr 0 (.t 1)⟩,
 ⟨some 17, false, none, iFaddr 3 (.t 16)⟩,
 ⟨some 18, false, none, iLoad (.t 17)⟩,
 ⟨some 19, false, none, iFaddr 0 (.t 1)⟩,
 ⟨some 20, false, none, iFaddr 4 (.t 19)⟩,
 ⟨some 21, false, none, iLoad (.t 20)⟩,
 ⟨some 22, false, none, iFaddr 0 (.t 1)⟩,
 ⟨some 23, false, none, iFaddr 5 (.t 22)⟩,
 ⟨some 24, false, none, iLoad (.t 23)⟩,
 ⟨some 25, false, none, iLenS (.t 24)⟩,
 ⟨some 26, true, none, iBuild [(.int .i64 (.lit 0)), (.int .i64 (.lit 0)), (.int .i64 (.lit 0)), (.int .i64 (.lit 0)), (.int .i64 (.lit 0)), (.int .i64 (.lit 0))] [(0, 1, (.t 8)), (1, 1, (.t 11)), (2, 1, (.t 15)), (3, 1, (.t 18)), (4, 1, (.t 21)), (5, 1, (.t 25))]⟩,
 ⟨some 27, true, none, iMov (.c (.int .i64 (.lit 0)))⟩])
 (cBlock 0 (cLoop (cSeq (cOps [⟨some 28, true, none, iCmp .lss (.t 27) (.c (.int .i64 (.lit 6)))⟩])
 (cSeq (cCond (.t 28) cSkip (cExit 0))
 (cSeq (cBlock 1 (cSeq (cOps [⟨some 29, false, none, iMov (.t 27)⟩,
 ⟨some 30, false, none, iIndex false 1 6 (.t 26) (.t 27)⟩,
 ⟨some 3, true, none, iMov (.t 29)⟩,
 ⟨some 4, true, none, iMov (.t 30)⟩])
 (cSeq (cOps [⟨some 31, false, none, iMov (.t 4)⟩,
 ⟨some 32, false, none, iMov (.t 3)⟩,
 ⟨some 33, false, none, iIaddrA 2 6 (.c (.ptr 4 0)) (.t 32)⟩,
 ⟨some 34, false, none, iLoadN 2 (.t 33)⟩,
 ⟨some 35, false, none, iCall (.c (.func (.func 201) [] [])) [(.t 31), (.t 34)]⟩,
 ⟨some 36, true, none, iNot (.t 35)⟩])
 (cCond (.t 36) (cSeq (cOps [⟨some 2, true, none, iMov (.c (.bool (.lit false)))⟩])
 cRet) cSkip))))
 (cOps [⟨some 37, false, none, iArith .add (.t 27) (.c (.int .i64 (.lit 1)))⟩,
 ⟨some 27, true, none, iMov (.t 37)⟩])))))))
 (cSeq (cOps [⟨some 38, false, none, iLoadN 6 (.t 1)⟩,
 ⟨some 39, false, none, iCall (.c (.func (.func 202) [] [])) [(.t 38)]⟩,
 ⟨some 40, false, none, iMov (.t 39)⟩,
 ⟨some 41, false, some (40, true), iLoadN 6 (.t 1)⟩,
 ⟨some 42, false, some (40, true), iCall (.c (.func (.func 203) [] [])) [(.t 41)]⟩,
 ⟨some 43, false, none, iPick (.t 40) (.t 42) (.c (.bool (.lit false)))⟩,
 ⟨some 44, false, none, iMov (.t 43)⟩,
 ⟨some 45, false, some (44, true), iLoadN 6 (.t 1)⟩,
 ⟨some 46, false, some (44, true), iCall (.c (.func (.func 204) [] [])) [(.t 45)]⟩,
 ⟨some 47, false, none, iPick (.t 44) (.t 46) (.c (.bool (.lit false)))⟩,
 ⟨some 2, true, none, iMov (.t 47)⟩])
 cRet))), [.t 2]⟩
noncomputable def Tryz.kp153 : List Nat := [0, 1, 3, 4]
noncomputable def Tryz.cf153 : CF := ⟨2, (cSeq (cOps [⟨some 3, true, none, iBox 29 (.t 1)⟩,
 ⟨some 4, true, none, iMov (.c (.bool (.lit false)))⟩])
 (cSeq (cOps [⟨some 5, false, none, iFaddr 0 (.t 3)⟩,
 ⟨some 6, false, none, iLoad (.t 5)⟩,
 ⟨some 7, false, none, iMov (.t 0)⟩,
 ⟨some 8, false, none, iCmp .leq (.t 6) (.t 7)⟩,
 ⟨some 9, false, none, iMov (.t 8)⟩,
 ⟨some 10, false, some (9, true), iMov (.t 0)⟩,
 ⟨some 11, false, some (9, true), iFaddr 1 (.t 3)⟩,
 ⟨some 12, false, some (9, true), iLoad (.t 11)⟩,
 ⟨some 13, false, some (9, true), iCmp .leq (.t 10) (.t 12)⟩,
 ⟨some 14, false, none, iPick (.t 9) (.t 13) (.c (.bool (.lit false)))⟩,
 ⟨some 4, true, none, iMov (.t 14)⟩])
 cRet)), [.t 4]⟩
noncomputable def Tryz.kp154 : List Nat := [0, 1, 2, 3, 4]
noncomputable def Tryz.cf154 : CF := ⟨2, (cSeq (cOps [⟨some 2, true, none, iBox 29 (.t 0)⟩,
 ⟨some 3, true, none, iBox 29 (.t 1)⟩,
 ⟨some 4, true, none, iMov (.c (.bool (.lit false)))⟩])
 (cSeq (cOps [⟨some 5, false, none, iFaddr 0 (.t 3)⟩,
 ⟨some 6, false, none, iLoad (.t 5)⟩,
 ⟨some 7, false, none, iFaddr 0 (.t 2)⟩,
 ⟨some 8, false, none, iLoad (.t 7)⟩,
 ⟨some 9, false, none, iCmp .leq (.t 6) (.t 8)⟩,
 ⟨some 10, false, none, iMov (.t 9)⟩,
 ⟨some 11, false, some (10, true), iFaddr 0 (.t 2)⟩,
 ⟨some 12, false, some (10, true), iLoad (.t 11)⟩,
 ⟨some 13, false, some (10, true), iFaddr 1 (.t 2)⟩,
 ⟨some 14, false, some (10, true), iLoad (.t 13)⟩,
 ⟨some 15, false, some (10, true), iCmp .leq (.t 12) (.t 14)⟩,
 ⟨some 16, false, none, iPick (.t 10) (.t 15) (.c (.bool (.lit false)))⟩,
 ⟨some 17, false, none, iMov (.t 16)⟩,
 ⟨some 18, false, some (17, true), iFaddr 1 (.t 2)⟩,
 ⟨some 19, false, some (17, true), iLoad (.t 18)⟩,
 ⟨some 20, false, some (17, true), iFaddr 1 (.t 3)⟩,
 ⟨some 21, false, some (17, true), iLoad (.t 20)⟩,
 ⟨some 22, false, some (17, true), iCmp .leq (.t 19) (.t 21)⟩,
 ⟨some 23, false, none, iPick (.t 17) (.t 22) (.c (.bool (.lit false)))⟩,
 ⟨some 4, true, none, iMov (.t 23)⟩])
 cRet)), [.t 4]⟩
noncomputable def Tryz.kp155 : List Nat := [0, 1, 2, 3, 4, 13, 14, 15, 23]
noncomputable def Tryz.cf155 : CF := ⟨1, (cSeq (cOps [⟨some 1, true, none, iBox 70 (.t 0)⟩,
 ⟨some 2, true, none, iMov (.c (.bool (.lit false)))⟩])
 (cSeq (cSeq (cOps [⟨some 5, false, none, iFaddr 0 (.t 1)⟩,
 ⟨some 6, false, none, iLoad (.t 5)⟩,
 ⟨some 7, false, none, iFaddr 7 (.t 1)⟩,
 ⟨some 8, false, none, iLoad (.t 7)⟩,
 ⟨some 9, false, none, iFaddr 8 (.t 1)⟩,
 ⟨some 10, false, none, iLoad (.t 9)⟩,
 ⟨some 11, false, none, iFaddr 9 (.t 1)⟩,
 ⟨some 12, false, none, iLoad (.t 11)⟩,
 ⟨some 13, true, none, iBuild [(.int .i64 (.lit 0)), (.int .i64 (.lit 0)), (.int .i64 (.lit 0)), (.int .i64 (.lit 0))] [(0, 1, (.t 6)), (1, 1, (.t 8)), (2, 1, (.t 10)), (3, 1, (.t 12))]⟩,
 ⟨some 14, true, none, iMov (.c (.int .i64 (.lit 0)))⟩])
 (cBlock 0 (cLoop (cSeq (cOps [⟨some 15, true, none, iCmp .lss (.t 14) (.c (.int .i64 (.lit 4)))⟩])
 (cSeq (cCond (.t 15) cSkip (cExit 0))
 (cSeq (cBlock 1 (cSeq (cOps [⟨some 16, false, none, iMov (.t 14)⟩,
 ⟨some 17, false, none, iIndex false 1 4 (.t 13) (.t 14)⟩,
 ⟨some 3, true, none, iMov (.t 16)⟩,
 ⟨some 4, true, none, iMov (.t 17)⟩])
 (cSeq (cOps [⟨some 18, false, none, iMov (.t 4)⟩,
 ⟨some 19, false, none, iMov (.t 3)⟩,
 ⟨some 20, false, none, iIaddrA 2 4 (.c (.ptr 5 0)) (.t 19)⟩,
 ⟨some 21, false, none, iLoadN 2 (.t 20)⟩,
 ⟨some 22, false, none, iCall (.c (.func (.func 153) [] [])) [(.t 18), (.t 21)]⟩,
 ⟨some 23, true, none, iNot (.t 22)⟩])
 (cCond (.t 23) (cSeq (cOps [⟨some 2, true, none, iMov (.c (.bool (.lit false)))⟩])
 cRet) cSkip))))
 (cOps [⟨some 24, false, none, iArith .add (.t 14) (.c (.int .i64 (.lit 1)))⟩,
 ⟨some 14, true, none, iMov (.t 24)⟩])))))))
 (cSeq (cOps [⟨some 25, false, none, iFaddr 8 (.t 1)⟩,
 ⟨some 26, false, none, iLoad (.t 25)⟩,
 ⟨some 27, false, none, iFaddr 9 (.t 1)⟩,
 ⟨some 28, false, none, iLoad (.t 27)⟩,
 ⟨some 29, false, none, iCmp .leq (.t 26) (.t 28)⟩,
 ⟨some 2, true, none, iMov (.t 29)⟩])
 cRet))), [.t 2]⟩
noncomputable def Tryz.kp165 : List Nat := [0, 1, 2]
noncomputable def Tryz.cf165 : CF := ⟨1, (cSeq (cOps [⟨some 1, true, none, iBox 111 (.t 0)⟩,
 ⟨some 2, true, none, iAlloc 175 [(.int .i64 (.lit 0)), (.int .i64 (.lit 0))]⟩])
 (cSeq (cOps [⟨some 3, false, none, iFaddr 24 (.t 1)⟩,
 ⟨some 4, false, none, iLoad (.t 3)⟩,
 ⟨some 5, false, none, iArith .mul (.t 4) (.c (.int .i64 (.lit 600)))⟩,
 ⟨some 6, false, none, iBuild [(.int .i64 (.lit 0)), (.int .i64 (.lit 0))] [(0, 1, (.c (.int .i64 (.lit (-1))))), (1, 1, (.t 5))]⟩,
 ⟨none, false, none, iStore 2 (.t 2) (.t 6)⟩])
 cRet)), [.cell 2 true 2]⟩
noncomputable def Tryz.kp166 : List Nat := [0, 1, 2, 3, 4, 5, 8, 9, 15]
noncomputable def Tryz.cf166 : CF := ⟨4, (cSeq (cOps [⟨some 4, true, none, iBox 111 (.t 0)⟩,
 ⟨some 5, true, none, iBox 175 (.t 1)⟩,
 ⟨some 8, true, none, iAlloc 175 [(.int .i64 (.lit 0)), (.int .i64 (.lit 0))]⟩])
 (cSeq (cOps [⟨some 10, false, none, iFaddr 1 (.t 5)⟩,
 ⟨some 11, false, none, iLoad (.t 10)⟩,
 ⟨some 9, true, none, iMov (.t 11)⟩])
 (cSeq (cSeq (dOps 0 [⟨⟨some 12, false, none, iLoadN 2 (.t 5)⟩, [5], false, 0, 1, none, []⟩,
 ⟨⟨some 13, false, none, iLoadN 25 (.t 4)⟩, [4], false, 0, 0, none, []⟩,
 ⟨⟨some 14, false, none, iCall (.c (.func (.func 165) [] [])) [(.t 13)]⟩, [13], true, 0, 0, none, []⟩,
 ⟨⟨some 15, true, none, iEq true true 2 [(0, .int), (1, .int)] (.t 12) (.t 14)⟩, [12, 14], false, 1, 1, none, []⟩])
 (cCond (.t 15) (dOps 0 [⟨⟨some 16, false, none, iMov (.t 9)⟩, [9], false, 0, 2, none, []⟩,
 ⟨⟨some 17, false, none, iMov (.t 3)⟩, [3], false, 0, 0, none, []⟩,
 ⟨⟨some 18, false, none, iFaddr 0 (.t 5)⟩, [5], false, 0, 0, none, []⟩,
 ⟨⟨some 19, false, none, iLoad (.t 18)⟩, [18], false, 0, 0, none, []⟩,
 ⟨⟨some 20, false, none, iFaddr 0 (.t 4)⟩, [4], false, 0, 0, none, []⟩,
 ⟨⟨some 21, false, none, iFaddr 13 (.t 20)⟩, [20], false, 0, 0, none, []⟩,
 ⟨⟨some 22, false, none, iIaddrA 2 5 (.t 21) (.t 19)⟩, [21, 19], false, 0, 0, none, []⟩,
 ⟨⟨some 23, false, none, iLoadN 2 (.t 22)⟩, [22], false, 0, 0, none, []⟩,
 ⟨⟨some 24, false, none, iCall (.t 17) [(.t 23)]⟩, [17, 23], true, 0, 0, none, []⟩,
 ⟨⟨some 25, false, none, iMov (.t 3)⟩, [3], false, 0, 1, none, []⟩,
 ⟨⟨some 26, false, none, iFaddr 0 (.t 4)⟩, [4], false, 0, 1, none, []⟩,
 ⟨⟨some 27, false, none, iFaddr 0 (.t 26)⟩, [26], false, 0, 1, none, []⟩,
 ⟨⟨some 28, false, none, iFaddr 10 (.t 27)⟩, [27], false, 0, 1, none, []⟩,
 ⟨⟨some 29, false, none, iLoadN 2 (.t 28)⟩, [28], false, 0, 1, none, []⟩,
 ⟨⟨some 30, false, none, iCall (.t 25) [(.t 29)]⟩, [25, 29], true, 1, 0, none, []⟩,
 ⟨⟨some 31, false, none, iArith .mul (.t 30) (.c (.int .i64 (.lit 600)))⟩, [30], false, 2, 2, none, []⟩,
 ⟨⟨some 32, false, none, iArith .add (.t 24) (.t 31)⟩, [24, 31], false, 2, 2, none, []⟩,
 ⟨⟨some 33, false, none, iArith .add (.t 16) (.t 32)⟩, [16, 32], false, 2, 2, none, []⟩,
 ⟨⟨some 9, true, none, iMov (.t 33)⟩, [33], false, 2, 2, none, []⟩]) cSkip))
 (cSeq (cOps [⟨some 34, false, none, iMov (.t 2)⟩,
 ⟨some 35, false, none, iMov (.t 9)⟩,
 ⟨some 36, false, none, iFaddr 0 (.t 4)⟩,
 ⟨some 37, false, none, iFaddr 0 (.t 36)⟩,
 ⟨some 38, false, none, iFaddr 7 (.t 37)⟩,
 ⟨some 39, false, none, iLoad (.t 38)⟩,
 ⟨some 40, false, none, iMov (.t 2)⟩,
 ⟨some 41, false, none, iIaddr 10 (.t 39) (.t 40)⟩,
 ⟨some 42, false, none, iFaddr 8 (.t 41)⟩,
 ⟨some 43, false, none, iLoad (.t 42)⟩,
 ⟨some 44, false, none, iArith .mul (.t 43) (.c (.int .i64 (.lit 600)))⟩,
 ⟨some 45, false, none, iBslice 3 [(.int .i64 (.lit 0))] 1 [(0, 1, (.t 44))]⟩,
 ⟨some 46, false, none, iCall (.c (.func (.func 215) [] [])) [(.t 35), (.t 45)]⟩,
 ⟨some 47, false, none, iBuild [(.int .i64 (.lit 0)), (.int .i64 (.lit 0))] [(0, 1, (.t 34)), (1, 1, (.t 46))]⟩,
 ⟨none, false, none, iStore 2 (.t 8) (.t 47)⟩])
 cRet)))), [.cell 8 true 2]⟩
noncomputable def Tryz.kp167 : List Nat := [0, 1, 2, 3, 4, 5]
noncomputable def Tryz.cf167 : CF := ⟨2, (cSeq (cOps [⟨some 2, true, none, iBox 103 (.t 0)⟩,
 ⟨some 3, true, none, iBox 172 (.t 1)⟩,
 ⟨some 4, true, none, iMov (.c (.int .i64 (.lit 0)))⟩])
 (cSeq (dOps 0 [⟨⟨some 8, false, none, iFaddr 0 (.t 2)⟩, [2], false, 0, 0, none, []⟩,
 ⟨⟨some 9, false, none, iFaddr 0 (.t 8)⟩, [8], false, 0, 0, none, []⟩,
 ⟨⟨some 10, false, none, iLoadN 6 (.t 9)⟩, [9], false, 0, 0, none, []⟩,
 ⟨⟨some 11, false, none, iFaddr 0 (.t 2)⟩, [2], false, 0, 0, none, []⟩,
 ⟨⟨some 12, false, none, iFaddr 6 (.t 11)⟩, [11], false, 0, 0, none, []⟩,
 ⟨⟨some 13, false, none, iLoad (.t 12)⟩, [12], false, 0, 0, none, []⟩,
 ⟨⟨some 14, false, none, iFaddr 0 (.t 2)⟩, [2], false, 0, 0, none, []⟩,
 ⟨⟨some 15, false, none, iFaddr 7 (.t 14)⟩, [14], false, 0, 0, none, []⟩,
 ⟨⟨some 16, false, none, iLoad (.t 15)⟩, [15], false, 0, 0, none, []⟩,
 ⟨⟨some 17, false, none, iFaddr 0 (.t 3)⟩, [3], false, 0, 0, none, []⟩,
 ⟨⟨some 18, false, none, iLoad (.t 17)⟩, [17], false, 0, 0, none, []⟩,
 ⟨⟨some 19, false, none, iIaddr 10 (.t 16) (.t 18)⟩, [16, 18], false, 0, 0, none, []⟩,
 ⟨⟨some 20, false, none, iFaddr 0 (.t 19)⟩, [19], false, 0, 0, none, []⟩,
 ⟨⟨some 21, false, none, iLoad (.t 20)⟩, [20], false, 0, 0, none, []⟩,
 ⟨⟨some 22, false, none, iFaddr 1 (.t 3)⟩, [3], false, 0, 0, none, []⟩,
 ⟨⟨some 23, false, none, iLoad (.t 22)⟩, [22], false, 0, 0, none, []⟩,
 ⟨⟨some 24, false, none, iMin [(.t 23), (.c (.int .i64 (.lit 1439)))]⟩, [23], false, 0, 0, none, []⟩,
 ⟨⟨some 25, false, none, iCall (.c (.func (.func 86) [] [])) [(.t 10), (.t 13), (.t 21), (.t 24)]⟩, [10, 13, 21, 24], true, 0, 0, none, []⟩,
 ⟨⟨some 7, false, none, iMov (.t 25)⟩, [25], false, 1, 1, none, []⟩,
 ⟨⟨some 26, false, none, iExtract 0 (.t 7)⟩, [7], false, 1, 1, none, []⟩,
 ⟨⟨some 27, false, none, iExtract 1 (.t 7)⟩, [7], false, 1, 1, none, []⟩,
 ⟨⟨some 5, true, none, iMov (.t 26)⟩, [26], false, 1, 1, none, []⟩,
 ⟨⟨some 6, false, none, iMov (.t 27)⟩, [27], false, 1, 1, none, []⟩])
 (cSeq (cOps [⟨some 28, false, none, iMov (.t 5)⟩,
 ⟨some 4, true, none, iMov (.t 28)⟩])
 cRet))), [.t 4]⟩
noncomputable def Tryz.kp168 : List Nat := [0, 1, 3, 4, 7]
noncomputable def Tryz.cf168 : CF := ⟨2, (cSeq (cOps [⟨some 2, false, none, iBox 103 (.t 0)⟩,
 ⟨some 3, true, none, iBox 172 (.t 1)⟩,
 ⟨some 4, true, none, iMov (.c (.int .i64 (.lit 0)))⟩])
 (cSeq (cSeq (cOps [⟨some 5, false, none, iFaddr 1 (.t 3)⟩,
 ⟨some 6, false, none, iLoad (.t 5)⟩,
 ⟨some 7, true, none, iCmp .gtr (.t 6) (.c (.int .i64 (.lit 1439)))⟩])
 (cCond (.t 7) (cSeq (cOps [⟨some 4, true, none, iMov (.c (.int .i64 (.lit 4)))⟩])
 cRet) cSkip))
 (cSeq (cOps [⟨some 4, true, none, iMov (.c (.int .i64 (.lit 0)))⟩])
 cRet))), [.t 4]⟩
noncomputable def Tryz.kp169 : List Nat := [0, 1, 2, 3, 4, 15]
noncomputable def Tryz.cf169 : CF := ⟨2, (cSeq (cOps [⟨some 2, true, none, iBox 103 (.t 0)⟩,
 ⟨some 3, true, none, iBox 172 (.t 1)⟩,
 ⟨some 4, true, none, iMov (.c (.int .i64 (.lit 0)))⟩])
 (cSeq (cSeq (dOps 0 [⟨⟨some 5, false, none, iFaddr 1 (.t 3)⟩, [3], false, 0, 0, none, []⟩,
 ⟨⟨some 6, false, none, iLoad (.t 5)⟩, [5], false, 0, 0, none, []⟩,
 ⟨⟨some 7, false, none, iFaddr 0 (.t 2)⟩, [2], false, 0, 0, none, []⟩,
 ⟨⟨some 8, false, none, iFaddr 7 (.t 7)⟩, [7], false, 0, 0, none, []⟩,
 ⟨⟨some 9, false, none, iLoad (.t 8)⟩, [8], false, 0, 0, none, []⟩,
 ⟨⟨some 10, false, none, iFaddr 0 (.t 3)⟩, [3], false, 0, 0, none, []⟩,
 ⟨⟨some 11, false, none, iLoad (.t 10)⟩, [10], false, 0, 0, none, []⟩,
 ⟨⟨some 12, false, none, iIaddr 10 (.t 9) (.t 11)⟩, [9, 11], false, 0, 0, none, []⟩,
 ⟨⟨some 13, false, none, iFaddr 9 (.t 12)⟩, [12], false, 0, 0, none, []⟩,
 ⟨⟨some 14, false, none, iLoad (.t 13)⟩, [13], false, 0, 0, none, []⟩,
 ⟨⟨some 15, true, none, iCmp .gtr (.t 6) (.t 14)⟩, [6, 14], false, 0, 0, none, []⟩])
 (cCond (.t 15) (cSeq (cOps [⟨some 4, true, none, iMov (.c (.int .i64 (.lit 5)))⟩])
 cRet) cSkip))
 (cSeq (cOps [⟨some 4, true, none, iMov (.c (.int .i64 (.lit 0)))⟩])
 cRet))), [.t 4]⟩
noncomputable def Tryz.kp171 : List Nat := [0, 1, 2]
noncomputable def Tryz.cf171 : CF := ⟨1, (cSeq (cOps [⟨some 1, true, none, iBox 103 (.t 0)⟩,
 ⟨some 2, true, none, iMov (.c .nilFunc)⟩])
 (cSeq (cOps [⟨some 3, false, none, iFunc (.func 219) [] [(.t 1)]⟩,
 ⟨some 2, true, none, iMov (.t 3)⟩])
 cRet)), [.t 2]⟩
noncomputable def Tryz.kp172 : List Nat := [0, 2, 4]
noncomputable def Tryz.cf172 : CF := ⟨1, (cSeq (cOps [⟨some 2, true, none, iMov (.c .nilslice)⟩])
 (cSeq (cSeq (cOps [⟨some 3, false, none, iMov (.t 0)⟩,
 ⟨some 4, true, none, iEq false false 1 [(0, .nilS)] (.t 3) (.c .nilslice)⟩])
 (cCond (.t 4) (cSeq (cOps [⟨some 2, true, none, iMov (.c .nilslice)⟩])
 cRet) cSkip))
 (cSeq (cOps [⟨some 5, false, none, iBslice 3 [(.int .i64 (.lit 0))] 0 []⟩,
 ⟨some 6, false, none, iMov (.t 0)⟩,
 ⟨some 7, false, none, iAppend 3 1 8 (.t 5) (.t 6)⟩,
 ⟨some 2, true, none, iMov (.t 7)⟩])
 cRet))), [.t 2]⟩
noncomputable def Tryz.kp173 : List Nat := [0, 1, 2, 4, 5]
noncomputable def Tryz.cf173 : CF := ⟨2, (cSeq (cOps [⟨some 2, true, none, iBox 111 (.t 0)⟩,
 ⟨some 4, true, none, iMov (.c (.int .i64 (.lit 0)))⟩])
 (cSeq (cOps [⟨some 6, false, none, iLoadN 25 (.t 2)⟩,
 ⟨some 7, false, none, iMov (.t 1)⟩,
 ⟨some 8, false, none, iCall (.c (.func (.func 113) [] [])) [(.t 6), (.t 7), (.c (.func (.func 115) [] []))]⟩,
 ⟨some 5, true, none, iMov (.t 8)⟩])
 (cSeq (dOps 0 [⟨⟨some 9, false, none, iFaddr 0 (.t 2)⟩, [2], false, 0, 0, none, []⟩,
 ⟨⟨some 10, false, none, iLoadN 24 (.t 9)⟩, [9], false, 0, 0, none, []⟩,
 ⟨⟨some 11, false, none, iMov (.t 5)⟩, [5], false, 0, 0, none, []⟩,
 ⟨⟨some 12, false, none, iMov (.t 5)⟩, [5], false, 0, 0, none, []⟩,
 ⟨⟨some 13, false, none, iLenS (.t 12)⟩, [12], false, 0, 0, none, []⟩,
 ⟨⟨some 14, false, none, iArith .sub (.t 13) (.c (.int .i64 (.lit 1)))⟩, [13], false, 0, 0, none, []⟩,
 ⟨⟨some 15, false, none, iIaddr 2 (.t 11) (.t 14)⟩, [11, 14], false, 0, 0, none, []⟩,
 ⟨⟨some 16, false, none, iLoadN 2 (.t 15)⟩, [15], false, 0, 0, none, []⟩,
 ⟨⟨some 17, false, none, iCall (.c (.func (.func 116) [] [])) [(.t 10), (.t 16), (.c (.func (.func 115) [] []))]⟩, [10, 16], true, 0, 0, none, []⟩,
 ⟨⟨some 18, false, none, iField false 1 1 (.t 17)⟩, [17], false, 1, 1, none, []⟩,
 ⟨⟨some 4, true, none, iMov (.t 18)⟩, [18], false, 1, 1, none, []⟩])
 cRet))), [.t 4]⟩
noncomputable def Tryz.kp174 : List Nat := [0, 1, 4]
noncomputable def Tryz.cf174 : CF := ⟨2, (cSeq (cOps [⟨some 4, true, none, iMov (.c (.bool (.lit false)))⟩])
 (cSeq (cOps [⟨some 5, false, none, iMov (.t 0)⟩,
 ⟨some 6, false, none, iMov (.t 1)⟩,
 ⟨some 7, false, none, iCall (.c (.func (.func 221) [] [])) [(.t 5), (.t 6)]⟩,
 ⟨some 8, false, none, iCmp .geq (.t 7) (.c (.int .i64 (.lit 0)))⟩,
 ⟨some 4, true, none, iMov (.t 8)⟩])
 cRet)), [.t 4]⟩
noncomputable def Tryz.kp175 : List Nat := [0, 1, 4, 5, 6, 7, 8, 9, 10, 11, 12, 19, 28, 35]
noncomputable def Tryz.cf175 : CF := ⟨2, (cSeq (cOps [⟨some 4, true, none, iMov (.c (.int .i64 (.lit 0)))⟩])
 (cSeq (cSeq (cOps [⟨some 9, true, none, iMov (.t 0)⟩,
 ⟨some 10, true, none, iLenS (.t 9)⟩,
 ⟨some 11, true, none, iMov (.c (.int .i64 (.lit 0)))⟩])
 (cBlock 0 (cLoop (cSeq (cOps [⟨some 12, true, none, iCmp .lss (.t 11) (.t 10)⟩])
 (cSeq (cCond (.t 12) cSkip (cExit 0))
 (cSeq (cBlock 1 (cSeq (cOps [⟨some 13, false, none, iMov (.t 11)⟩,
 ⟨some 14, false, none, iIaddr 1 (.t 9) (.t 11)⟩,
 ⟨some 15, false, none, iLoad (.t 14)⟩,
 ⟨some 5, true, none, iMov (.t 13)⟩,
 ⟨some 6, true, none, iMov (.t 15)⟩])
 (cSeq (cSeq (cOps [⟨some 16, false, none, iMov (.t 5)⟩,
 ⟨some 17, false, none, iMov (.t 1)⟩,
 ⟨some 18, false, none, iLenS (.t 17)⟩,
 ⟨some 19, true, none, iCmp .geq (.t 16) (.t 18)⟩])
 (cCond (.t 19) (cSeq (cOps [⟨some 4, true, none, iMov (.c (.int .i64 (.lit 1)))⟩])
 cRet) cSkip))
 (cSeq (cOps [⟨some 20, false, none, iMov (.t 1)⟩,
 ⟨some 21, false, none, iMov (.t 5)⟩,
 ⟨some 22, false, none, iIaddr 1 (.t 20) (.t 21)⟩,
 ⟨some 23, false, none, iLoad (.t 22)⟩,
 ⟨some 7, true, none, iMov (.t 23)⟩])
 (cSeq (cOps [⟨some 24, false, none, iMov (.t 6)⟩,
 ⟨some 25, false, none, iMov (.t 7)⟩,
 ⟨some 26, false, none, iCall (.c (.func (.func 222) [] [])) [(.t 24), (.t 25)]⟩,
 ⟨some 8, true, none, iMov (.t 26)⟩])
 (cSeq (cOps [⟨some 27, false, none, iMov (.t 8)⟩,
 ⟨some 28, true, none, iCmp .neq (.t 27) (.c (.int .i64 (.lit 0)))⟩])
 (cCond (.t 28) (cSeq (cOps [⟨some 29, false, none, iMov (.t 8)⟩,
 ⟨some 4, true, none, iMov (.t 29)⟩])
 cRet) cSkip)))))))
 (cOps [⟨some 30, false, none, iArith .add (.t 11) (.c (.int .i64 (.lit 1)))⟩,
 ⟨some 11, true, none, iMov (.t 30)⟩])))))))
 (cSeq (cSeq (cOps [⟨some 31, false, none, iMov (.t 0)⟩,
 ⟨some 32, false, none, iLenS (.t 31)⟩,
 ⟨some 33, false, none, iMov (.t 1)⟩,
 ⟨some 34, false, none, iLenS (.t 33)⟩,
 ⟨some 35, true, none, iCmp .lss (.t 32) (.t 34)⟩])
 (cCond (.t 35) (cSeq (cOps [⟨some 4, true, none, iMov (.c (.int .i64 (.lit (-1))))⟩])
 cRet) cSkip))
 (cSeq (cOps [⟨some 4, true, none, iMov (.c (.int .i64 (.lit 0)))⟩])
 cRet)))), [.t 4]⟩
noncomputable def Tryz.kp176 : List Nat := [0, 1, 2, 3, 4, 11, 12, 13, 21]
noncomputable def Tryz.cf176 : CF := ⟨1, (cSeq (cOps [⟨some 1, true, none, iBox 130 (.t 0)⟩,
 ⟨some 2, true, none, iMov (.c (.bool (.lit false)))⟩])
 (cSeq (cSeq (cOps [⟨some 5, false, none, iFaddr 0 (.t 1)⟩,
 ⟨some 6, false, none, iLoadN 2 (.t 5)⟩,
 ⟨some 7, false, none, iFaddr 2 (.t 1)⟩,
 ⟨some 8, false, none, iLoadN 2 (.t 7)⟩,
 ⟨some 9, false, none, iFaddr 4 (.t 1)⟩,
 ⟨some 10, false, none, iLoadN 2 (.t 9)⟩,
 ⟨some 11, true, none, iBuild [(.int .i64 (.lit 0)), (.int .i64 (.lit 0)), (.int .i64 (.lit 0)), (.int .i64 (.lit 0)), (.int .i64 (.lit 0)), (.int .i64 (.lit 0))] [(0, 2, (.t 6)), (2, 2, (.t 8)), (4, 2, (.t 10))]⟩,
 ⟨some 12, true, none, iMov (.c (.int .i64 (.lit 0)))⟩])
 (cBlock 0 (cLoop (cSeq (cOps [⟨some 13, true, none, iCmp .lss (.t 12) (.c (.int .i64 (.lit 3)))⟩])
 (cSeq (cCond (.t 13) cSkip (cExit 0))
 (cSeq (cBlock 1 (cSeq (cOps [⟨some 14, false, none, iMov (.t 12)⟩,
 ⟨some 15, false, none, iIndex true 2 3 (.t 11) (.t 12)⟩,
 ⟨some 4, true, none, iAlloc 29 [(.int .i64 (.lit 0)), (.int .i64 (.lit 0))]⟩,
 ⟨some 3, true, none, iMov (.t 14)⟩,
 ⟨none, false, none, iStore 2 (.t 4) (.t 15)⟩])
 (cSeq (dOps 0 [⟨⟨some 16, false, none, iLoadN 2 (.t 4)⟩, [4], false, 0, 0, none, []⟩,
 ⟨⟨some 17, false, none, iMov (.t 3)⟩, [3], false, 0, 0, none, []⟩,
 ⟨⟨some 18, false, none, iIaddrA 2 3 (.c (.ptr 6 0)) (.t 17)⟩, [17], false, 0, 0, none, []⟩,
 ⟨⟨some 19, false, none, iLoadN 2 (.t 18)⟩, [18], false, 0, 0, none, []⟩,
 ⟨⟨some 20, false, none, iCall (.c (.func (.func 177) [] [])) [(.t 16), (.t 19)]⟩, [16, 19], true, 0, 0, none, []⟩,
 ⟨⟨some 21, true, none, iNot (.t 20)⟩, [20], false, 1, 1, none, []⟩])
 (cCond (.t 21) (cSeq (cOps [⟨some 2, true, none, iMov (.c (.bool (.lit false)))⟩])
 cRet) cSkip))))
 (cOps [⟨some 22, false, none, iArith .add (.t 12) (.c (.int .i64 (.lit 1)))⟩,
 ⟨some 12, true, none, iMov (.t 22)⟩])))))))
 (cSeq (cOps [⟨some 23, false, none, iFaddr 0 (.t 1)⟩,
 ⟨some 24, false, none, iFaddr 0 (.t 23)⟩,
 ⟨some 25, false, none, iLoad (.t 24)⟩,
 ⟨some 26, false, none, iFaddr 2 (.t 1)⟩,
 ⟨some 27, false, none, iFaddr 1 (.t 26)⟩,
 ⟨some 28, false, none, iLoad (.t 27)⟩,
 ⟨some 29, false, none, iCmp .leq (.t 25) (.t 28)⟩,
 ⟨some 2, true, none, iMov (.t 29)⟩])
 cRet))), [.t 2]⟩
noncomputable def Tryz.kp177 : List Nat := [0, 1, 2, 3, 4]
noncomputable def Tryz.cf177 : CF := ⟨2, (cSeq (cOps [⟨some 2, true, none, iBox 29 (.t 0)⟩,
 ⟨some 3, true, none, iBox 29 (.t 1)⟩,
 ⟨some 4, true, none, iMov (.c (.bool (.lit false)))⟩])
 (cSeq (cOps [⟨some 5, false, none, iFaddr 0 (.t 3)⟩,
 ⟨some 6, false, none, iLoad (.t 5)⟩,
 ⟨some 7, false, none, iFaddr 0 (.t 2)⟩,
 ⟨some 8, false, none, iLoad (.t 7)⟩,
 ⟨some 9, false, none, iCmp .leq (.t 6) (.t 8)⟩,
 ⟨some 10, false, none, iMov (.t 9)⟩,
 ⟨some 11, false, some (10, true), iFaddr 0 (.t 2)⟩,
 ⟨some 12, false, some (10, true), iLoad (.t 11)⟩,
 ⟨some 13, false, some (10, true), iFaddr 1 (.t 2)⟩,
 ⟨some 14, false, some (10, true), iLoad (.t 13)⟩,
 ⟨some 15, false, some (10, true), iCmp .leq (.t 12) (.t 14)⟩,
 ⟨some 16, false, none, iPick (.t 10) (.t 15) (.c (.bool (.lit false)))⟩,
 ⟨some 17, false, none, iMov (.t 16)⟩,
 ⟨some 18, false, some (17, true), iFaddr 1 (.t 2)⟩,
 ⟨some 19, false, some (17, true), iLoad (.t 18)⟩,
 ⟨some 20, false, some (17, true), iFaddr 1 (.t 3)⟩,
 ⟨some 21, false, some (17, true), iLoad (.t 20)⟩,
 ⟨some 22, false, some (17, true), iCmp .leq (.t 19) (.t 21)⟩,
 ⟨some 23, false, none, iPick (.t 17) (.t 22) (.c (.bool (.lit false)))⟩,
 ⟨some 4, true, none, iMov (.t 23)⟩])
 cRet)), [.t 4]⟩
noncomputable def Tryz.kp178 : List Nat := [0, 1, 2, 3, 4, 8]
noncomputable def Tryz.cf178 : CF := ⟨1, (cSeq (cOps [⟨some 1, true, none, iBox 68 (.t 0)⟩,
 ⟨some 2, true, none, iAlloc 247 [.nilslice, (.int .i64 (.lit 0)), (.int .i64 (.lit 0)), (.int .i64 (.lit 0)), (.int .i64 (.lit 0)), (.int .i64 (.lit 0)), .nilmap]⟩,
 ⟨some 3, true, none, iMov (.c (.int .i64 (.lit 0)))⟩])
 (cSeq (cSeq (cOps [⟨some 5, false, none, iLoadN 6 (.t 1)⟩,
 ⟨some 6, false, none, iCall (.c (.func (.func 83) [] [])) [(.t 5)]⟩,
 ⟨some 4, true, none, iMov (.t 6)⟩])
 (cSeq (cOps [⟨some 7, false, none, iMov (.t 4)⟩,
 ⟨some 8, true, none, iCmp .neq (.t 7) (.c (.int .i64 (.lit 0)))⟩])
 (cCond (.t 8) (cSeq (cOps [⟨some 9, false, none, iBuild [.nilslice, (.int .i64 (.lit 0)), (.int .i64 (.lit 0)), (.int .i64 (.lit 0)), (.int .i64 (.lit 0)), (.int .i64 (.lit 0)), .nilmap] []⟩,
 ⟨some 10, false, none, iMov (.t 4)⟩,
 ⟨none, false, none, iStore 7 (.t 2) (.t 9)⟩,
 ⟨some 3, true, none, iMov (.t 10)⟩])
 cRet) cSkip)))
 (cSeq (cOps [⟨some 11, false, none, iLoadN 6 (.t 1)⟩,
 ⟨some 12, false, none, iMkmap⟩,
 ⟨some 13, false, none, iBuild [.nilslice, (.int .i64 (.lit 0)), (.int .i64 (.lit 0)), (.int .i64 (.lit 0)), (.int .i64 (.lit 0)), (.int .i64 (.lit 0)), .nilmap] [(0, 6, (.t 11)), (6, 1, (.t 12))]⟩,
 ⟨none, false, none, iStore 7 (.t 2) (.t 13)⟩,
 ⟨some 3, true, none, iMov (.c (.int .i64 (.lit 0)))⟩])
 cRet))), [.cell 2 true 7, .t 3]⟩
noncomputable def Tryz.kp179 : List Nat := [0, 1, 2]
noncomputable def Tryz.cf179 : CF := ⟨1, (cSeq (cOps [⟨some 1, true, none, iBox 247 (.t 0)⟩,
 ⟨some 2, true, none, iMov (.c .nilFunc)⟩])
 (cSeq (dOps 0 [⟨⟨some 3, false, none, iLoadN 7 (.t 1)⟩, [1], false, 0, 0, none, []⟩,
 ⟨⟨some 4, false, none, iCall (.c (.func (.func 224) [] [])) [(.t 3), (.c .nilslice)]⟩, [3], true, 0, 0, none, []⟩,
 ⟨⟨some 5, false, none, iLoadN 7 (.t 1)⟩, [1], false, 0, 1, none, []⟩,
 ⟨⟨some 6, false, none, iFunc (.func 225) [(.t 5)] []⟩, [5], false, 0, 1, none, []⟩,
 ⟨⟨some 7, false, none, iCall (.c (.func (.func 223) [] [])) [(.t 4), (.t 6)]⟩, [4, 6], true, 1, 0, none, []⟩,
 ⟨⟨some 2, true, none, iMov (.t 7)⟩, [7], false, 2, 2, none, []⟩])
 cRet)), [.t 2]⟩
noncomputable def Tryz.kp180 : List Nat := [0, 1, 2, 4]
noncomputable def Tryz.cf180 : CF := ⟨2, (cSeq (cOps [⟨some 2, true, none, iBox 247 (.t 0)⟩,
 ⟨some 4, true, none, iMov (.c (.bool (.lit false)))⟩])
 (cSeq (cOps [⟨some 5, false, none, iMov (.t 1)⟩,
 ⟨some 6, false, none, iLenS (.t 5)⟩,
 ⟨some 7, false, none, iCmp .gtr (.t 6) (.c (.int .i64 (.lit 0)))⟩,
 ⟨some 8, false, none, iMov (.t 7)⟩,
 ⟨some 9, false, some (8, true), iLoadN 7 (.t 2)⟩,
 ⟨some 10, false, some (8, true), iMov (.t 1)⟩,
 ⟨some 11, false, some (8, true), iCall (.c (.func (.func 183) [] [])) [(.t 9), (.t 10)]⟩,
 ⟨some 12, false, none, iPick (.t 8) (.t 11) (.c (.bool (.lit false)))⟩,
 ⟨some 4, true, none, iMov (.t 12)⟩])
 cRet)), [.t 4]⟩
noncomputable def Tryz.kp181 : List Nat := [0, 2]
noncomputable def Tryz.cf181 : CF := ⟨1, (cSeq (cOps [⟨some 2, true, none, iMov (.c (.bool (.lit false)))⟩])
 (cSeq (cOps [⟨some 3, false, none, iMov (.t 0)⟩,
 ⟨some 4, false, none, iCmp .geq (.t 3) (.c (.int .i64 (.lit 0)))⟩,
 ⟨some 5, false, none, iMov (.t 4)⟩,
 ⟨some 6, false, some (5, true), iMov (.t 0)⟩,
 ⟨some 7, false, some (5, true), iCmp .leq (.t 6) (.c (.int .i64 (.lit 999)))⟩,
 ⟨some 8, false, none, iPick (.t 5) (.t 7) (.c (.bool (.lit false)))⟩,
 ⟨some 2, true, none, iMov (.t 8)⟩])
 cRet)), [.t 2]⟩
noncomputable def Tryz.kp182 : List Nat := [0, 1, 2, 3, 6, 7, 8, 9, 10, 11, 12, 13, 14, 15, 16, 29, 36]
noncomputable def Tryz.cf182 : CF := ⟨3, (cSeq (cOps [⟨some 3, true, none, iBox 247 (.t 0)⟩,
 ⟨some 6, true, none, iMov (.c .nilslice)⟩,
 ⟨some 7, true, none, iMov (.c (.int .i64 (.lit 0)))⟩])
 (cSeq (cOps [⟨some 8, true, none, iMov (.c .nilslice)⟩])
 (cSeq (cOps [⟨some 9, true, none, iMov (.c (.int .i64 (.lit 0)))⟩])
 (cSeq (cSeq (cOps [⟨some 13, true, none, iMov (.t 1)⟩,
 ⟨some 14, true, none, iLenS (.t 13)⟩,
 ⟨some 15, true, none, iMov (.c (.int .i64 (.lit 0)))⟩])
 (cBlock 0 (cLoop (cSeq (cOps [⟨some 16, true, none, iCmp .lss (.t 15) (.t 14)⟩])
 (cSeq (cCond (.t 16) cSkip (cExit 0))
 (cSeq (cBlock 1 (cSeq (cOps [⟨some 17, false, none, iMov (.t 15)⟩,
 ⟨some 18, false, none, iIaddr 1 (.t 13) (.t 15)⟩,
 ⟨some 19, false, none, iLoad (.t 18)⟩,
 ⟨some 10, true, none, iMov (.t 17)⟩,
 ⟨some 11, true, none, iMov (.t 19)⟩])
 (cSeq (cOps [⟨some 20, false, none, iLoadN 7 (.t 3)⟩,
 ⟨some 21, false, none, iMov (.t 11)⟩,
 ⟨some 22, false, none, iMov (.t 2)⟩,
 ⟨some 23, false, none, iCall (.c (.func (.func 226) [] [])) [(.t 20), (.t 21), (.t 22)]⟩,
 ⟨some 24, false, none, iField false 1 1 (.t 23)⟩,
 ⟨some 12, true, none, iMov (.t 24)⟩])
 (cSeq (cSeq (cOps [⟨some 25, false, none, iMov (.t 12)⟩,
 ⟨some 26, false, none, iFaddr 0 (.t 3)⟩,
 ⟨some 27, false, none, iFaddr 5 (.t 26)⟩,
 ⟨some 28, false, none, iLoad (.t 27)⟩,
 ⟨some 29, true, none, iCmp .gtr (.t 25) (.t 28)⟩])
 (cCond (.t 29) (cSeq (cOps [⟨some 6, true, none, iMov (.c .nilslice)⟩,
 ⟨some 7, true, none, iMov (.c (.int .i64 (.lit 4)))⟩])
 cRet) cSkip))
 (cSeq (cSeq (cOps [⟨some 30, false, none, iMov (.t 10)⟩,
 ⟨some 31, false, none, iCmp .eql (.t 30) (.c (.int .i64 (.lit 0)))⟩,
 ⟨some 32, false, none, iMov (.t 31)⟩,
 ⟨some 33, false, some (32, false), iMov (.t 12)⟩,
 ⟨some 34, false, some (32, false), iMov (.t 9)⟩,
 ⟨some 35, false, some (32, false), iCmp .gtr (.t 33) (.t 34)⟩,
 ⟨some 36, true, none, iPick (.t 32) (.c (.bool (.lit true))) (.t 35)⟩])
 (cCond (.t 36) (cSeq (cOps [⟨some 37, false, none, iMov (.t 8)⟩,
 ⟨some 38, false, none, iBslice 3 [(.int .i64 (.lit 0))] 1 [(0, 1, (.c (.int .i64 (.lit 0))))]⟩,
 ⟨some 39, false, none, iAppend 3 1 8 (.t 37) (.t 38)⟩,
 ⟨some 8, true, none, iMov (.t 39)⟩])
 (cOps [⟨some 40, false, none, iFaddr 0 (.t 3)⟩,
 ⟨some 41, false, none, iFaddr 5 (.t 40)⟩,
 ⟨some 42, false, none, iLoad (.t 41)⟩,
 ⟨some 9, true, none, iMov (.t 42)⟩])) cSkip))
 (cSeq (cOps [⟨some 43, false, none, iMov (.t 8)⟩,
 ⟨some 44, false, none, iMov (.t 8)⟩,
 ⟨some 45, false, none, iLenS (.t 44)⟩,
 ⟨some 46, false, none, iArith .sub (.t 45) (.c (.int .i64 (.lit 1)))⟩,
 ⟨some 47, false, none, iIaddr 1 (.t 43) (.t 46)⟩,
 ⟨some 48, false, none, iLoad (.t 47)⟩,
 ⟨some 49, false, none, iArith .add (.t 48) (.c (.int .i64 (.lit 1)))⟩,
 ⟨some 50, false, none, iIaddr 1 (.t 43) (.t 46)⟩,
 ⟨none, false, none, iStore 1 (.t 50) (.t 49)⟩])
 (cOps [⟨some 51, false, none, iMov (.t 9)⟩,
 ⟨some 52, false, none, iMov (.t 12)⟩,
 ⟨some 53, false, none, iArith .sub (.t 51) (.t 52)⟩,
 ⟨some 9, true, none, iMov (.t 53)⟩])))))))
 (cOps [⟨some 54, false, none, iArith .add (.t 15) (.c (.int .i64 (.lit 1)))⟩,
 ⟨some 15, true, none, iMov (.t 54)⟩])))))))
 (cSeq (cOps [⟨some 55, false, none, iMov (.t 8)⟩,
 ⟨some 6, true, none, iMov (.t 55)⟩,
 ⟨some 7, true, none, iMov (.c (.int .i64 (.lit 0)))⟩])
 cRet))))), [.t 6, .t 7]⟩
noncomputable def Tryz.kp183 : List Nat := [0, 1, 2, 4, 5, 7, 8, 9, 10, 11, 22]
noncomputable def Tryz.cf183 : CF := ⟨2, (cSeq (cOps [⟨some 2, true, none, iBox 247 (.t 0)⟩,
 ⟨some 4, true, none, iMov (.c (.bool (.lit false)))⟩])
 (cSeq (cOps [⟨some 5, true, none, iAlloc 283 [(.bool (.lit false)), (.bool (.lit false)), (.bool (.lit false)), (.bool (.lit false)), (.bool (.lit false)), (.bool (.lit false))]⟩])
 (cSeq (cSeq (cOps [⟨some 8, true, none, iMov (.t 1)⟩,
 ⟨some 9, true, none, iLenS (.t 8)⟩,
 ⟨some 10, true, none, iMov (.c (.int .i64 (.lit 0)))⟩])
 (cBlock 0 (cLoop (cSeq (cOps [⟨some 11, true, none, iCmp .lss (.t 10) (.t 9)⟩])
 (cSeq (cCond (.t 11) cSkip (cExit 0))
 (cSeq (cBlock 1 (cSeq (cOps [⟨some 12, false, none, iIaddr 1 (.t 8) (.t 10)⟩,
 ⟨some 13, false, none, iLoad (.t 12)⟩,
 ⟨some 7, true, none, iMov (.t 13)⟩])
 (cSeq (cSeq (cOps [⟨some 14, false, none, iLoadN 7 (.t 2)⟩,
 ⟨some 15, false, none, iMov (.t 7)⟩,
 ⟨some 16, false, none, iCall (.c (.func (.func 227) [] [])) [(.t 14), (.t 15)]⟩,
 ⟨some 17, false, none, iNot (.t 16)⟩,
 ⟨some 18, false, none, iMov (.t 17)⟩,
 ⟨some 19, false, some (18, false), iMov (.t 7)⟩,
 ⟨some 20, false, some (18, false), iIaddrA 1 6 (.t 5) (.t 19)⟩,
 ⟨some 21, false, some (18, false), iLoad (.t 20)⟩,
 ⟨some 22, true, none, iPick (.t 18) (.c (.bool (.lit true))) (.t 21)⟩])
 (cCond (.t 22) (cSeq (cOps [⟨some 4, true, none, iMov (.c (.bool (.lit false)))⟩])
 cRet) cSkip))
 (cOps [⟨some 23, false, none, iMov (.t 7)⟩,
 ⟨some 24, false, none, iIaddrA 1 6 (.t 5) (.t 23)⟩,
 ⟨none, false, none, iStore 1 (.t 24) (.c (.bool (.lit true)))⟩]))))
 (cOps [⟨some 25, false, none, iArith .add (.t 10) (.c (.int .i64 (.lit 1)))⟩,
 ⟨some 10, true, none, iMov (.t 25)⟩])))))))
 (cSeq (cOps [⟨some 4, true, none, iMov (.c (.bool (.lit true)))⟩])
 cRet)))), [.t 4]⟩
noncomputable def Tryz.kp184 : List Nat := [0, 1, 2, 3, 4, 5, 6]
noncomputable def Tryz.cf184 : CF := ⟨3, (cSeq (cOps [⟨some 3, true, none, iBox 247 (.t 0)⟩,
 ⟨some 4, true, none, iBox 32 (.t 1)⟩,
 ⟨some 5, true, none, iBox 3 (.t 2)⟩,
 ⟨some 6, true, none, iAlloc 29 [(.int .i64 (.lit 0)), (.int .i64 (.lit 0))]⟩])
 (cSeq (cOps [⟨some 7, false, none, iFunc (.func 229) [] [(.t 4), (.t 3), (.t 5)]⟩,
 ⟨some 8, false, none, iCall (.c (.func (.func 228) [] [])) [(.t 7)]⟩,
 ⟨none, false, none, iStore 2 (.t 6) (.t 8)⟩])
 cRet)), [.cell 6 true 2]⟩
noncomputable def Tryz.kp185 : List Nat := [0, 1, 2, 3, 4]
noncomputable def Tryz.cf185 : CF := ⟨2, (cSeq (cOps [⟨some 2, true, none, iBox 151 (.t 0)⟩,
 ⟨some 3, true, none, iBox 189 (.t 1)⟩,
 ⟨some 4, true, none, iMov (.c (.bool (.lit false)))⟩])
 (cSeq (cOps [⟨some 5, false, none, iLoadN 6 (.t 2)⟩,
 ⟨some 6, false, none, iFaddr 0 (.t 3)⟩,
 ⟨some 7, false, none, iLoad (.t 6)⟩,
 ⟨some 8, false, none, iFaddr 0 (.t 2)⟩,
 ⟨some 9, false, none, iFaddr 5 (.t 8)⟩,
 ⟨some 10, false, none, iLoad (.t 9)⟩,
 ⟨some 11, false, none, iCall (.c (.func (.func 210) [] [])) [(.t 5), (.t 7), (.t 10)]⟩,
 ⟨some 12, false, none, iNot (.t 11)⟩,
 ⟨some 4, true, none, iMov (.t 12)⟩])
 cRet)), [.t 4]⟩
noncomputable def Tryz.kp186 : List Nat := [0, 1, 2, 3, 4]
noncomputable def Tryz.cf186 : CF := ⟨2, (cSeq (cOps [⟨some 2, true, none, iBox 151 (.t 0)⟩,
 ⟨some 3, true, none, iBox 189 (.t 1)⟩,
 ⟨some 4, true, none, iMov (.c (.bool (.lit false)))⟩])
 (cSeq (cOps [⟨some 5, false, none, iLoadN 6 (.t 2)⟩,
 ⟨some 6, false, none, iFaddr 0 (.t 3)⟩,
 ⟨some 7, false, none, iLoad (.t 6)⟩,
 ⟨some 8, false, none, iCall (.c (.func (.func 211) [] [])) [(.t 5), (.t 7)]⟩,
 ⟨some 4, true, none, iMov (.t 8)⟩])
 cRet)), [.t 4]⟩
noncomputable def Tryz.kp187 : List Nat := [0, 1, 2, 3, 4]
noncomputable def Tryz.cf187 : CF := ⟨2, (cSeq (cOps [⟨some 2, true, none, iBox 151 (.t 0)⟩,
 ⟨some 3, true, none, iBox 189 (.t 1)⟩,
 ⟨some 4, true, none, iMov (.c (.bool (.lit false)))⟩])
 (cSeq (cOps [⟨some 5, false, none, iFaddr 0 (.t 2)⟩,
 ⟨some 6, false, none, iFaddr 3 (.t 5)⟩,
 ⟨some 7, false, none, iLoad (.t 6)⟩,
 ⟨some 8, false, none, iFaddr 1 (.t 3)⟩,
 ⟨some 9, false, none, iLoad (.t 8)⟩,
 ⟨some 10, false, none, iShift .shr (.t 7) (.t 9)⟩,
 ⟨some 11, false, none, iArith .and (.t 10) (.c (.int .i64 (.lit 1)))⟩,
 ⟨some 12, false, none, iCmp .eql (.t 11) (.c (.int .i64 (.lit 1)))⟩,
 ⟨some 4, true, none, iMov (.t 12)⟩])
 cRet)), [.t 4]⟩
noncomputable def Tryz.kp188 : List Nat := [0, 1, 2, 3, 4]
noncomputable def Tryz.cf188 : CF := ⟨2, (cSeq (cOps [⟨some 2, true, none, iBox 151 (.t 0)⟩,
 ⟨some 3, true, none, iBox 189 (.t 1)⟩,
 ⟨some 4, true, none, iMov (.c (.bool (.lit false)))⟩])
 (cSeq (cOps [⟨some 5, false, none, iFaddr 2 (.t 3)⟩,
 ⟨some 6, false, none, iLoad (.t 5)⟩,
 ⟨some 7, false, none, iFaddr 0 (.t 2)⟩,
 ⟨some 8, false, none, iFaddr 4 (.t 7)⟩,
 ⟨some 9, false, none, iLoad (.t 8)⟩,
 ⟨some 10, false, none, iCmp .gtr (.t 6) (.t 9)⟩,
 ⟨some 4, true, none, iMov (.t 10)⟩])
 cRet)), [.t 4]⟩
noncomputable def Tryz.kp190 : List Nat := [0, 2, 4, 5, 6, 7, 8]
noncomputable def Tryz.cf190 : CF := ⟨1, (cSeq (cOps [⟨some 2, true, none, iMov (.c (.int .i64 (.lit 0)))⟩])
 (cSeq (cSeq (cOps [⟨some 5, true, none, iMov (.t 0)⟩,
 ⟨some 6, true, none, iLenS (.t 5)⟩,
 ⟨some 7, true, none, iMov (.c (.int .i64 (.lit 0)))⟩])
 (cBlock 0 (cLoop (cSeq (cOps [⟨some 8, true, none, iCmp .lss (.t 7) (.t 6)⟩])
 (cSeq (cCond (.t 8) cSkip (cExit 0))
 (cSeq (cBlock 1 (cSeq (cOps [⟨some 9, false, none, iIaddr 1 (.t 5) (.t 7)⟩,
 ⟨some 10, false, none, iLoad (.t 9)⟩,
 ⟨some 4, true, none, iMov (.t 10)⟩])
 (cOps [⟨some 11, false, none, iMov (.t 2)⟩,
 ⟨some 12, false, none, iMov (.t 4)⟩,
 ⟨some 13, false, none, iArith .add (.t 11) (.t 12)⟩,
 ⟨some 2, true, none, iMov (.t 13)⟩])))
 (cOps [⟨some 14, false, none, iArith .add (.t 7) (.c (.int .i64 (.lit 1)))⟩,
 ⟨some 7, true, none, iMov (.t 14)⟩])))))))
 (cSeq (cOps [⟨some 15, false, none, iMov (.t 2)⟩,
 ⟨some 2, true, none, iMov (.t 15)⟩])
 cRet))), [.t 2]⟩
noncomputable def Tryz.kp201 : List Nat := [0, 1, 3, 4]
noncomputable def Tryz.cf201 : CF := ⟨2, (cSeq (cOps [⟨some 3, true, none, iBox 29 (.t 1)⟩,
 ⟨some 4, true, none, iMov (.c (.bool (.lit false)))⟩])
 (cSeq (cOps [⟨some 5, false, none, iFaddr 0 (.t 3)⟩,
 ⟨some 6, false, none, iLoad (.t 5)⟩,
 ⟨some 7, false, none, iMov (.t 0)⟩,
 ⟨some 8, false, none, iCmp .leq (.t 6) (.t 7)⟩,
 ⟨some 9, false, none, iMov (.t 8)⟩,
 ⟨some 10, false, some (9, true), iMov (.t 0)⟩,
 ⟨some 11, false, some (9, true), iFaddr 1 (.t 3)⟩,
 ⟨some 12, false, some (9, true), iLoad (.t 11)⟩,
 ⟨some 13, false, some (9, true), iCmp .leq (.t 10) (.t 12)⟩,
 ⟨some 14, false, none, iPick (.t 9) (.t 13) (.c (.bool (.lit false)))⟩,
 ⟨some 4, true, none, iMov (.t 14)⟩])
 cRet)), [.t 4]⟩
noncomputable def Tryz.kp202 : List Nat := [0, 1, 2, 4, 5, 6, 9, 10, 11, 12, 21, 22, 23, 31]
noncomputable def Tryz.cf202 : CF := ⟨1, (cSeq (cOps [⟨some 1, true, none, iBox 151 (.t 0)⟩,
 ⟨some 2, true, none, iMov (.c (.bool (.lit false)))⟩])
 (cSeq (cSeq (cOps [⟨some 7, false, none, iFaddr 0 (.t 1)⟩,
 ⟨some 8, false, none, iFaddr 0 (.t 7)⟩,
 ⟨some 9, true, none, iLoad (.t 8)⟩,
 ⟨some 10, true, none, iLenS (.t 9)⟩,
 ⟨some 11, true, none, iMov (.c (.int .i64 (.lit 0)))⟩])
 (cBlock 0 (cLoop (cSeq (cOps [⟨some 12, true, none, iCmp .lss (.t 11) (.t 10)⟩])
 (cSeq (cCond (.t 12) cSkip (cExit 0))
 (cSeq (cBlock 1 (cSeq (cOps [⟨some 13, false, none, iIaddr 3 (.t 9) (.t 11)⟩,
 ⟨some 14, false, none, iLoadN 3 (.t 13)⟩,
 ⟨some 4, true, none, iAlloc 166 [(.int .i64 (.lit 0)), (.int .i64 (.lit 0)), (.int .i64 (.lit 0))]⟩,
 ⟨none, false, none, iStore 3 (.t 4) (.t 14)⟩])
 (cSeq (cOps [⟨some 15, false, none, iFaddr 0 (.t 4)⟩,
 ⟨some 16, false, none, iLoad (.t 15)⟩,
 ⟨some 17, false, none, iFaddr 1 (.t 4)⟩,
 ⟨some 18, false, none, iLoad (.t 17)⟩,
 ⟨some 19, false, none, iFaddr 2 (.t 4)⟩,
 ⟨some 20, false, none, iLoad (.t 19)⟩,
 ⟨some 21, true, none, iBuild [(.int .i64 (.lit 0)), (.int .i64 (.lit 0)), (.int .i64 (.lit 0))] [(0, 1, (.t 16)), (1, 1, (.t 18)), (2, 1, (.t 20))]⟩,
 ⟨some 22, true, none, iMov (.c (.int .i64 (.lit 0)))⟩])
 (cBlock 2 (cLoop (cSeq (cOps [⟨some 23, true, none, iCmp .lss (.t 22) (.c (.int .i64 (.lit 3)))⟩])
 (cSeq (cCond (.t 23) cSkip (cExit 2))
 (cSeq (cBlock 3 (cSeq (cOps [⟨some 24, false, none, iMov (.t 22)⟩,
 ⟨some 25, false, none, iIndex false 1 3 (.t 21) (.t 22)⟩,
 ⟨some 5, true, none, iMov (.t 24)⟩,
 ⟨some 6, true, none, iMov (.t 25)⟩])
 (cSeq (cOps [⟨some 26, false, none, iMov (.t 6)⟩,
 ⟨some 27, false, none, iMov (.t 5)⟩,
 ⟨some 28, false, none, iIaddrA 2 3 (.c (.ptr 7 0)) (.t 27)⟩,
 ⟨some 29, false, none, iLoadN 2 (.t 28)⟩,
 ⟨some 30, false, none, iCall (.c (.func (.func 201) [] [])) [(.t 26), (.t 29)]⟩,
 ⟨some 31, true, none, iNot (.t 30)⟩])
 (cCond (.t 31) (cSeq (cOps [⟨some 2, true, none, iMov (.c (.bool (.lit false)))⟩])
 cRet) cSkip))))
 (cOps [⟨some 32, false, none, iArith .add (.t 22) (.c (.int .i64 (.lit 1)))⟩,
 ⟨some 22, true, none, iMov (.t 32)⟩])))))))))
 (cOps [⟨some 33, false, none, iArith .add (.t 11) (.c (.int .i64 (.lit 1)))⟩,
 ⟨some 11, true, none, iMov (.t 33)⟩])))))))
 (cSeq (cOps [⟨some 2, true, none, iMov (.c (.bool (.lit true)))⟩])
 cRet))), [.t 2]⟩
noncomputable def Tryz.kp203 : List Nat := [0, 1, 2, 3, 5, 8, 9, 10, 11, 22]
noncomputable def Tryz.cf203 : CF := ⟨1, (cSeq (cOps [⟨some 1, true, none, iBox 151 (.t 0)⟩,
 ⟨some 2, true, none, iMov (.c (.bool (.lit false)))⟩])
 (cSeq (cOps [⟨some 3, true, none, iMov (.c (.int .i64 (.lit 0)))⟩])
 (cSeq (cSeq (cOps [⟨some 6, false, none, iFaddr 0 (.t 1)⟩,
 ⟨some 7, false, none, iFaddr 2 (.t 6)⟩,
 ⟨some 8, true, none, iLoad (.t 7)⟩,
 ⟨some 9, true, none, iLenS (.t 8)⟩,
 ⟨some 10, true, none, iMov (.c (.int .i64 (.lit 0)))⟩])
 (cBlock 0 (cLoop (cSeq (cOps [⟨some 11, true, none, iCmp .lss (.t 10) (.t 9)⟩])
 (cSeq (cCond (.t 11) cSkip (cExit 0))
 (cSeq (cBlock 1 (cSeq (cOps [⟨some 12, false, none, iIaddr 2 (.t 8) (.t 10)⟩,
 ⟨some 13, false, none, iLoadN 2 (.t 12)⟩,
 ⟨some 5, true, none, iAlloc 29 [(.int .i64 (.lit 0)), (.int .i64 (.lit 0))]⟩,
 ⟨none, false, none, iStore 2 (.t 5) (.t 13)⟩])
 (cSeq (cSeq (cOps [⟨some 14, false, none, iLoadN 2 (.t 5)⟩,
 ⟨some 15, false, none, iCall (.c (.func (.func 103) [] [])) [(.t 14)]⟩,
 ⟨some 16, false, none, iNot (.t 15)⟩,
 ⟨some 17, false, none, iMov (.t 16)⟩,
 ⟨some 18, false, some (17, false), iFaddr 0 (.t 5)⟩,
 ⟨some 19, false, some (17, false), iLoad (.t 18)⟩,
 ⟨some 20, false, some (17, false), iMov (.t 3)⟩,
 ⟨some 21, false, some (17, false), iCmp .lss (.t 19) (.t 20)⟩,
 ⟨some 22, true, none, iPick (.t 17) (.c (.bool (.lit true))) (.t 21)⟩])
 (cCond (.t 22) (cSeq (cOps [⟨some 2, true, none, iMov (.c (.bool (.lit false)))⟩])
 cRet) cSkip))
 (cOps [⟨some 23, false, none, iFaddr 1 (.t 5)⟩,
 ⟨some 24, false, none, iLoad (.t 23)⟩,
 ⟨some 25, false, none, iArith .add (.t 24) (.c (.int .i64 (.lit 1)))⟩,
 ⟨some 3, true, none, iMov (.t 25)⟩]))))
 (cOps [⟨some 26, false, none, iArith .add (.t 10) (.c (.int .i64 (.lit 1)))⟩,
 ⟨some 10, true, none, iMov (.t 26)⟩])))))))
 (cSeq (cOps [⟨some 2, true, none, iMov (.c (.bool (.lit true)))⟩])
 cRet)))), [.t 2]⟩
noncomputable def Tryz.kp204 : List Nat := [0, 1, 2, 3, 4, 7, 8, 9, 10, 29]
noncomputable def Tryz.cf204 : CF := ⟨1, (cSeq (cOps [⟨some 1, true, none, iBox 151 (.t 0)⟩,
 ⟨some 2, true, none, iMov (.c (.bool (.lit false)))⟩])
 (cSeq (cSeq (cOps [⟨some 5, false, none, iFaddr 0 (.t 1)⟩,
 ⟨some 6, false, none, iFaddr 5 (.t 5)⟩,
 ⟨some 7, true, none, iLoad (.t 6)⟩,
 ⟨some 8, true, none, iLenS (.t 7)⟩,
 ⟨some 9, true, none, iMov (.c (.int .i64 (.lit 0)))⟩])
 (cBlock 0 (cLoop (cSeq (cOps [⟨some 10, true, none, iCmp .lss (.t 9) (.t 8)⟩])
 (cSeq (cCond (.t 10) cSkip (cExit 0))
 (cSeq (cBlock 1 (cSeq (cOps [⟨some 11, false, none, iMov (.t 9)⟩,
 ⟨some 12, false, none, iIaddr 2 (.t 7) (.t 9)⟩,
 ⟨some 13, false, none, iLoadN 2 (.t 12)⟩,
 ⟨some 4, true, none, iAlloc 191 [(.int .i64 (.lit 0)), (.int .i64 (.lit 0))]⟩,
 ⟨some 3, true, none, iMov (.t 11)⟩,
 ⟨none, false, none, iStore 2 (.t 4) (.t 13)⟩])
 (cSeq (dOps 0 [⟨⟨some 14, false, none, iLoadN 6 (.t 1)⟩, [1], false, 0, 0, none, []⟩,
 ⟨⟨some 15, false, none, iLoadN 2 (.t 4)⟩, [4], false, 0, 0, none, []⟩,
 ⟨⟨some 16, false, none, iCall (.c (.func (.func 235) [] [])) [(.t 14), (.t 15)]⟩, [14, 15], true, 0, 0, none, []⟩,
 ⟨⟨some 17, false, none, iNot (.t 16)⟩, [16], false, 1, 1, none, []⟩,
 ⟨⟨some 18, false, none, iMov (.t 17)⟩, [17], false, 1, 1, none, []⟩,
 ⟨⟨some 19, false, some (18, false), iLoadN 6 (.t 1)⟩, [18, 1], false, 1, 1, none, []⟩,
 ⟨⟨some 20, false, some (18, false), iLoadN 2 (.t 4)⟩, [18, 4], false, 1, 1, none, []⟩,
 ⟨⟨some 21, false, some (18, false), iFaddr 0 (.t 1)⟩, [18, 1], false, 1, 1, none, []⟩,
 ⟨⟨some 22, false, some (18, false), iFaddr 5 (.t 21)⟩, [18, 21], false, 1, 1, none, []⟩,
 ⟨⟨some 23, false, some (18, false), iLoad (.t 22)⟩, [18, 22], false, 1, 1, none, []⟩,
 ⟨⟨some 24, false, some (18, false), iMov (.t 3)⟩, [18, 3], false, 1, 1, none, []⟩,
 ⟨⟨some 25, false, some (18, false), iMov (.t 3)⟩, [18, 3], false, 1, 1, none, []⟩,
 ⟨⟨some 26, false, some (18, false), iSlice 2 (.t 23) none (some (.t 24)) (some (.t 25))⟩, [18, 23, 24, 25], false, 1, 1, none, []⟩,
 ⟨⟨some 27, false, some (18, false), iCall (.c (.func (.func 236) [] [])) [(.t 19), (.t 20), (.t 26)]⟩, [18, 19, 20, 26], true, 1, 0, none, []⟩,
 ⟨⟨some 28, false, some (18, false), iNot (.t 27)⟩, [18, 27], false, 2, 2, none, []⟩,
 ⟨⟨some 29, true, none, iPick (.t 18) (.c (.bool (.lit true))) (.t 28)⟩, [18, 28], false, 2, 2, none, []⟩])
 (cCond (.t 29) (cSeq (cOps [⟨some 2, true, none, iMov (.c (.bool (.lit false)))⟩])
 cRet) cSkip))))
 (cOps [⟨some 30, false, none, iArith .add (.t 9) (.c (.int .i64 (.lit 1)))⟩,
 ⟨some 9, true, none, iMov (.t 30)⟩])))))))
 (cSeq (cOps [⟨some 2, true, none, iMov (.c (.bool (.lit true)))⟩])
 cRet))), [.t 2]⟩
noncomputable def Tryz.kp210 : List Nat := [0, 1, 2, 3, 6, 8, 9, 10, 11, 12, 18]
noncomputable def Tryz.cf210 : CF := ⟨3, (cSeq (cOps [⟨some 3, true, none, iBox 151 (.t 0)⟩,
 ⟨some 6, true, none, iMov (.c (.bool (.lit false)))⟩])
 (cSeq (cSeq (cOps [⟨some 9, true, none, iMov (.t 2)⟩,
 ⟨some 10, true, none, iLenS (.t 9)⟩,
 ⟨some 11, true, none, iMov (.c (.int .i64 (.lit 0)))⟩])
 (cBlock 0 (cLoop (cSeq (cOps [⟨some 12, true, none, iCmp .lss (.t 11) (.t 10)⟩])
 (cSeq (cCond (.t 12) cSkip (cExit 0))
 (cSeq (cBlock 1 (cSeq (cOps [⟨some 13, false, none, iIaddr 2 (.t 9) (.t 11)⟩,
 ⟨some 14, false, none, iLoadN 2 (.t 13)⟩,
 ⟨some 8, true, none, iAlloc 191 [(.int .i64 (.lit 0)), (.int .i64 (.lit 0))]⟩,
 ⟨none, false, none, iStore 2 (.t 8) (.t 14)⟩])
 (cSeq (cOps [⟨some 15, false, none, iLoadN 6 (.t 3)⟩,
 ⟨some 16, false, none, iLoadN 2 (.t 8)⟩,
 ⟨some 17, false, none, iMov (.t 1)⟩,
 ⟨some 18, true, none, iCall (.c (.func (.func 244) [] [])) [(.t 15), (.t 16), (.t 17)]⟩])
 (cCond (.t 18) (cSeq (cOps [⟨some 6, true, none, iMov (.c (.bool (.lit true)))⟩])
 cRet) cSkip))))
 (cOps [⟨some 19, false, none, iArith .add (.t 11) (.c (.int .i64 (.lit 1)))⟩,
 ⟨some 11, true, none, iMov (.t 19)⟩])))))))
 (cSeq (cOps [⟨some 6, true, none, iMov (.c (.bool (.lit false)))⟩])
 cRet))), [.t 6]⟩
noncomputable def Tryz.kp211 : List Nat := [0, 1, 2, 4]
noncomputable def Tryz.cf211 : CF := ⟨2, (cSeq (cOps [⟨some 2, true, none, iBox 151 (.t 0)⟩,
 ⟨some 4, true, none, iMov (.c (.bool (.lit false)))⟩])
 (cSeq (cOps [⟨some 5, false, none, iFaddr 0 (.t 2)⟩,
 ⟨some 6, false, none, iFaddr 2 (.t 5)⟩,
 ⟨some 7, false, none, iLoad (.t 6)⟩,
 ⟨some 8, false, none, iMov (.t 1)⟩,
 ⟨some 9, false, none, iFunc (.func 246) [(.t 8)] []⟩,
 ⟨some 10, false, none, iCall (.c (.func (.func 245) [] [])) [(.t 7), (.t 9)]⟩,
 ⟨some 4, true, none, iMov (.t 10)⟩])
 cRet)), [.t 4]⟩
noncomputable def Tryz.kp215 : List Nat := [0, 1, 4, 6, 7, 8, 9, 10]
noncomputable def Tryz.cf215 : CF := ⟨2, (cSeq (cOps [⟨some 4, true, none, iMov (.c (.int .i64 (.lit 0)))⟩])
 (cSeq (cSeq (cOps [⟨some 7, true, none, iMov (.t 1)⟩,
 ⟨some 8, true, none, iLenS (.t 7)⟩,
 ⟨some 9, true, none, iMov (.c (.int .i64 (.lit 0)))⟩])
 (cBlock 0 (cLoop (cSeq (cOps [⟨some 10, true, none, iCmp .lss (.t 9) (.t 8)⟩])
 (cSeq (cCond (.t 10) cSkip (cExit 0))
 (cSeq (cBlock 1 (cSeq (cOps [⟨some 11, false, none, iIaddr 1 (.t 7) (.t 9)⟩,
 ⟨some 12, false, none, iLoad (.t 11)⟩,
 ⟨some 6, true, none, iMov (.t 12)⟩])
 (cOps [⟨some 13, false, none, iMov (.t 0)⟩,
 ⟨some 14, false, none, iMov (.t 6)⟩,
 ⟨some 15, false, none, iMax [(.t 13), (.t 14)]⟩,
 ⟨some 0, true, none, iMov (.t 15)⟩])))
 (cOps [⟨some 16, false, none, iArith .add (.t 9) (.c (.int .i64 (.lit 1)))⟩,
 ⟨some 9, true, none, iMov (.t 16)⟩])))))))
 (cSeq (cOps [⟨some 17, false, none, iMov (.t 0)⟩,
 ⟨some 4, true, none, iMov (.t 17)⟩])
 cRet))), [.t 4]⟩
noncomputable def Tryz.kp219 : List Nat := [0, 1, 2, 3, 4]
noncomputable def Tryz.cf219 : CF := ⟨2, (cSeq (cOps [⟨some 2, true, none, iBox 118 (.t 0)⟩])
 (cSeq (cOps [⟨some 5, false, none, iFaddr 0 (.t 1)⟩,
 ⟨some 6, false, none, iFaddr 7 (.t 5)⟩,
 ⟨some 7, false, none, iLoad (.t 6)⟩,
 ⟨some 8, false, none, iLenS (.t 7)⟩,
 ⟨some 9, false, none, iMkslice 3 [(.int .i64 (.lit 0))] 8 (.t 8) (.t 8)⟩,
 ⟨some 3, true, none, iAlloc 32 [.nilslice]⟩,
 ⟨none, false, none, iStore 1 (.t 3) (.t 9)⟩])
 (cSeq (cOps [⟨some 4, true, none, iAlloc 279 [.nilFunc]⟩])
 (cSeq (cOps [⟨some 10, false, none, iFunc (.func 220) [] [(.t 2), (.t 3), (.t 1), (.t 4)]⟩,
 ⟨none, false, none, iStore 1 (.t 4) (.t 10)⟩])
 (cOps [⟨some 11, false, none, iLoad (.t 4)⟩,
 ⟨some 12, false, none, iBuild [(.bool (.lit false)), (.bool (.lit false)), (.bool (.lit false)), (.bool (.lit false)), (.bool (.lit false))] []⟩,
 ⟨some 13, false, none, iCall (.t 11) [(.c (.int .i64 (.lit 0))), (.t 12)]⟩]))))), []⟩
noncomputable def Tryz.kp220 : List Nat := [0, 1, 2, 3, 4, 5, 7, 8, 9, 10, 22, 26, 27, 28, 32, 45]
noncomputable def Tryz.cf220 : CF := ⟨6, (cSeq (cOps [⟨some 7, true, none, iBox 179 (.t 1)⟩,
 ⟨some 8, true, none, iMov (.c (.bool (.lit false)))⟩])
 (cSeq (cSeq (dOps 0 [⟨⟨some 11, false, none, iLoadN 5 (.t 7)⟩, [7], false, 0, 0, none, []⟩,
 ⟨⟨some 12, false, none, iBuild [(.bool (.lit false)), (.bool (.lit false)), (.bool (.lit false)), (.bool (.lit false)), (.bool (.lit false))] []⟩, [], false, 0, 0, none, []⟩,
 ⟨⟨some 13, false, none, iEq true true 5 [(0, .bool), (1, .bool), (2, .bool), (3, .bool), (4, .bool)] (.t 11) (.t 12)⟩, [11, 12], false, 0, 0, none, []⟩,
 ⟨⟨some 14, false, none, iMov (.t 13)⟩, [13], false, 0, 0, none, []⟩,
 ⟨⟨some 15, false, some (14, true), iLoad (.t 2)⟩, [14, 2], false, 0, 0, none, []⟩,
 ⟨⟨some 16, false, some (14, true), iLoad (.t 3)⟩, [14, 3], false, 0, 0, none, []⟩,
 ⟨⟨some 17, false, some (14, true), iMov (.t 0)⟩, [14, 0], false, 0, 0, none, []⟩,
 ⟨⟨some 18, false, some (14, true), iMov (.t 0)⟩, [14, 0], false, 0, 0, none, []⟩,
 ⟨⟨some 19, false, some (14, true), iSlice 1 (.t 16) none (some (.t 17)) (some (.t 18))⟩, [14, 16, 17, 18], false, 0, 0, none, []⟩,
 ⟨⟨some 20, false, some (14, true), iCall (.t 15) [(.t 19)]⟩, [14, 15, 19], true, 0, 0, none, []⟩,
 ⟨⟨some 21, false, some (14, true), iNot (.t 20)⟩, [14, 20], false, 1, 1, none, []⟩,
 ⟨⟨some 22, true, none, iPick (.t 14) (.t 21) (.c (.bool (.lit false)))⟩, [14, 21], false, 1, 1, none, []⟩])
 (cCond (.t 22) (cSeq (cOps [⟨some 8, true, none, iMov (.c (.bool (.lit false)))⟩])
 cRet) cSkip))
 (cSeq cSkip
 (cSeq (cSeq (cOps [⟨some 23, false, none, iFaddr 0 (.t 4)⟩,
 ⟨some 24, false, none, iFaddr 7 (.t 23)⟩,
 ⟨some 25, false, none, iLoad (.t 24)⟩,
 ⟨some 26, true, none, iLenS (.t 25)⟩,
 ⟨some 27, true, none, iMov (.c (.int .i64 (.lit 0)))⟩])
 (cBlock 0 (cLoop (cSeq (cOps [⟨some 28, true, none, iCmp .lss (.t 27) (.t 26)⟩])
 (cSeq (cCond (.t 28) cSkip (cExit 0))
 (cSeq (cBlock 1 (cSeq (cOps [⟨some 29, false, none, iMov (.t 27)⟩,
 ⟨some 9, true, none, iMov (.t 29)⟩])
 (cSeq (cSeq (cOps [⟨some 30, false, none, iMov (.t 9)⟩,
 ⟨some 31, false, none, iIaddrA 1 5 (.t 7) (.t 30)⟩,
 ⟨some 32, true, none, iLoad (.t 31)⟩])
 (cCond (.t 32) (cExit 1) cSkip))
 (cSeq (cOps [⟨some 33, false, none, iLoad (.t 3)⟩,
 ⟨some 34, false, none, iMov (.t 0)⟩,
 ⟨some 35, false, none, iMov (.t 9)⟩,
 ⟨some 36, false, none, iIaddr 1 (.t 33) (.t 34)⟩,
 ⟨none, false, none, iStore 1 (.t 36) (.t 35)⟩])
 (cSeq (cOps [⟨some 37, false, none, iLoadN 5 (.t 7)⟩,
 ⟨some 10, true, none, iAlloc 179 [(.bool (.lit false)), (.bool (.lit false)), (.bool (.lit false)), (.bool (.lit false)), (.bool (.lit false))]⟩,
 ⟨none, false, none, iStore 5 (.t 10) (.t 37)⟩])
 (cSeq (cOps [⟨some 38, false, none, iMov (.t 9)⟩,
 ⟨some 39, false, none, iIaddrA 1 5 (.t 10) (.t 38)⟩,
 ⟨none, false, none, iStore 1 (.t 39) (.c (.bool (.lit true)))⟩])
 (cSeq (cOps [⟨some 40, false, none, iLoad (.t 5)⟩,
 ⟨some 41, false, none, iMov (.t 0)⟩,
 ⟨some 42, false, none, iArith .add (.t 41) (.c (.int .i64 (.lit 1)))⟩,
 ⟨some 43, false, none, iLoadN 5 (.t 10)⟩,
 ⟨some 44, false, none, iCall (.t 40) [(.t 42), (.t 43)]⟩,
 ⟨some 45, true, none, iNot (.t 44)⟩])
 (cCond (.t 45) (cSeq (cOps [⟨some 8, true, none, iMov (.c (.bool (.lit false)))⟩])
 cRet) cSkip))))))))
 (cOps [⟨some 46, false, none, iArith .add (.t 27) (.c (.int .i64 (.lit 1)))⟩,
 ⟨some 27, true, none, iMov (.t 46)⟩])))))))
 (cSeq (cOps [⟨some 8, true, none, iMov (.c (.bool (.lit true)))⟩])
 cRet))))), [.t 8]⟩
noncomputable def Tryz.kp221 : List Nat := [0, 1, 4, 5, 7, 8, 9, 16]
noncomputable def Tryz.cf221 : CF := ⟨2, (cSeq (cOps [⟨some 4, true, none, iMov (.c (.int .i64 (.lit 0)))⟩])
 (cSeq (cSeq (cOps [⟨some 6, false, none, iMov (.t 0)⟩,
 ⟨some 7, true, none, iLenS (.t 6)⟩,
 ⟨some 8, true, none, iMov (.c (.int .i64 (.lit 0)))⟩])
 (cBlock 0 (cLoop (cSeq (cOps [⟨some 9, true, none, iCmp .lss (.t 8) (.t 7)⟩])
 (cSeq (cCond (.t 9) cSkip (cExit 0))
 (cSeq (cBlock 1 (cSeq (cOps [⟨some 10, false, none, iMov (.t 8)⟩,
 ⟨some 5, true, none, iMov (.t 10)⟩])
 (cSeq (cOps [⟨some 11, false, none, iMov (.t 1)⟩,
 ⟨some 12, false, none, iMov (.t 0)⟩,
 ⟨some 13, false, none, iMov (.t 5)⟩,
 ⟨some 14, false, none, iIaddr 1 (.t 12) (.t 13)⟩,
 ⟨some 15, false, none, iLoad (.t 14)⟩,
 ⟨some 16, true, none, iCmp .eql (.t 11) (.t 15)⟩])
 (cCond (.t 16) (cSeq (cOps [⟨some 17, false, none, iMov (.t 5)⟩,
 ⟨some 4, true, none, iMov (.t 17)⟩])
 cRet) cSkip))))
 (cOps [⟨some 18, false, none, iArith .add (.t 8) (.c (.int .i64 (.lit 1)))⟩,
 ⟨some 8, true, none, iMov (.t 18)⟩])))))))
 (cSeq (cOps [⟨some 4, true, none, iMov (.c (.int .i64 (.lit (-1))))⟩])
 cRet))), [.t 4]⟩
noncomputable def Tryz.kp222 : List Nat := [0, 1, 4, 5, 6, 11, 12, 13, 16, 19]
noncomputable def Tryz.cf222 : CF := ⟨2, (cSeq (cOps [⟨some 4, true, none, iMov (.c (.int .i64 (.lit 0)))⟩])
 (cSeq (cOps [⟨some 7, false, none, iMov (.t 0)⟩,
 ⟨some 8, false, none, iCall (.c (.func (.func 248) [] [])) [(.t 7)]⟩,
 ⟨some 5, true, none, iMov (.t 8)⟩])
 (cSeq (cOps [⟨some 9, false, none, iMov (.t 1)⟩,
 ⟨some 10, false, none, iCall (.c (.func (.func 248) [] [])) [(.t 9)]⟩,
 ⟨some 6, true, none, iMov (.t 10)⟩])
 (cSeq (cSeq (cOps [⟨some 11, true, none, iMov (.t 5)⟩])
 (cCond (.t 11) (cSeq (cSeq (cOps [⟨some 12, true, none, iMov (.t 6)⟩])
 (cCond (.t 12) (cSeq (cOps [⟨some 4, true, none, iMov (.c (.int .i64 (.lit 0)))⟩])
 cRet) cSkip))
 (cSeq (cOps [⟨some 4, true, none, iMov (.c (.int .i64 (.lit (-1))))⟩])
 cRet)) cSkip))
 (cSeq (cSeq (cOps [⟨some 13, true, none, iMov (.t 6)⟩])
 (cCond (.t 13) (cSeq (cOps [⟨some 4, true, none, iMov (.c (.int .i64 (.lit 1)))⟩])
 cRet) cSkip))
 (cSeq (cSeq (cOps [⟨some 14, false, none, iMov (.t 0)⟩,
 ⟨some 15, false, none, iMov (.t 1)⟩,
 ⟨some 16, true, none, iCmp .lss (.t 14) (.t 15)⟩])
 (cCond (.t 16) (cSeq (cOps [⟨some 4, true, none, iMov (.c (.int .i64 (.lit (-1))))⟩])
 cRet) cSkip))
 (cSeq (cSeq (cOps [⟨some 17, false, none, iMov (.t 0)⟩,
 ⟨some 18, false, none, iMov (.t 1)⟩,
 ⟨some 19, true, none, iCmp .gtr (.t 17) (.t 18)⟩])
 (cCond (.t 19) (cSeq (cOps [⟨some 4, true, none, iMov (.c (.int .i64 (.lit 1)))⟩])
 cRet) cSkip))
 (cSeq (cOps [⟨some 4, true, none, iMov (.c (.int .i64 (.lit 0)))⟩])
 cRet)))))))), [.t 4]⟩
noncomputable def Tryz.kp223 : List Nat := [0, 1, 2, 3, 4]
noncomputable def Tryz.cf223 : CF := ⟨2, (cSeq (cOps [⟨some 2, true, none, iBox 283 (.t 0)⟩,
 ⟨some 3, true, none, iBox 285 (.t 1)⟩,
 ⟨some 4, true, none, iMov (.c .nilFunc)⟩])
 (cSeq (cOps [⟨some 5, false, none, iFunc (.func 249) [] [(.t 3), (.t 2)]⟩,
 ⟨some 4, true, none, iMov (.t 5)⟩])
 cRet)), [.t 4]⟩
noncomputable def Tryz.kp224 : List Nat := [0, 1, 2, 4, 5, 6, 10, 11, 12]
noncomputable def Tryz.cf224 : CF := ⟨2, (cSeq (cOps [⟨some 2, true, none, iBox 247 (.t 0)⟩,
 ⟨some 4, true, none, iAlloc 283 [(.bool (.lit false)), (.bool (.lit false)), (.bool (.lit false)), (.bool (.lit false)), (.bool (.lit false)), (.bool (.lit false))]⟩])
 (cSeq (cOps [⟨some 5, true, none, iAlloc 283 [(.bool (.lit false)), (.bool (.lit false)), (.bool (.lit false)), (.bool (.lit false)), (.bool (.lit false)), (.bool (.lit false))]⟩])
 (cSeq (cSeq (cOps [⟨some 7, false, none, iFaddr 0 (.t 2)⟩,
 ⟨some 8, false, none, iFaddr 0 (.t 7)⟩,
 ⟨some 9, false, none, iLoad (.t 8)⟩,
 ⟨some 10, true, none, iLenS (.t 9)⟩,
 ⟨some 11, true, none, iMov (.c (.int .i64 (.lit 0)))⟩])
 (cBlock 0 (cLoop (cSeq (cOps [⟨some 12, true, none, iCmp .lss (.t 11) (.t 10)⟩])
 (cSeq (cCond (.t 12) cSkip (cExit 0))
 (cSeq (cBlock 1 (cSeq (cOps [⟨some 13, false, none, iMov (.t 11)⟩,
 ⟨some 6, true, none, iMov (.t 13)⟩])
 (cOps [⟨some 14, false, none, iMov (.t 6)⟩,
 ⟨some 15, false, none, iMov (.t 1)⟩,
 ⟨some 16, false, none, iMov (.t 6)⟩,
 ⟨some 17, false, none, iCall (.c (.func (.func 174) [] [])) [(.t 15), (.t 16)]⟩,
 ⟨some 18, false, none, iNot (.t 17)⟩,
 ⟨some 19, false, none, iIaddrA 1 6 (.t 5) (.t 14)⟩,
 ⟨none, false, none, iStore 1 (.t 19) (.t 18)⟩])))
 (cOps [⟨some 20, false, none, iArith .add (.t 11) (.c (.int .i64 (.lit 1)))⟩,
 ⟨some 11, true, none, iMov (.t 20)⟩])))))))
 (cSeq (cOps [⟨some 21, false, none, iLoadN 6 (.t 5)⟩,
 ⟨none, false, none, iStore 6 (.t 4) (.t 21)⟩])
 cRet)))), [.cell 4 true 6]⟩
noncomputable def Tryz.kp225 : List Nat := [0, 1, 2, 3, 4, 5, 6, 7, 8, 9, 10, 18, 54]
noncomputable def Tryz.cf225 : CF := ⟨2, (cSeq (cOps [⟨some 2, true, none, iBox 247 (.t 0)⟩,
 ⟨some 3, true, none, iBox 315 (.t 1)⟩,
 ⟨some 4, true, none, iAlloc 313 [(.int .i64 (.lit 0)), (.int .i64 (.lit 0))]⟩])
 (cSeq (cSeq (cOps [⟨some 12, false, none, iFaddr 6 (.t 2)⟩,
 ⟨some 13, false, none, iLoad (.t 12)⟩,
 ⟨some 14, false, none, iLoadN 3 (.t 3)⟩,
 ⟨some 15, false, none, iLookup (.agg [(.int .i64 (.lit 0)), (.int .i64 (.lit 0))]) true 3 [(0, .int), (1, .int), (2, .int)] true (.t 13) (.t 14)⟩,
 ⟨some 11, false, none, iMov (.t 15)⟩,
 ⟨some 16, false, none, iExtract 0 (.t 11)⟩,
 ⟨some 17, false, none, iExtract 1 (.t 11)⟩,
 ⟨some 5, true, none, iAlloc 313 [(.int .i64 (.lit 0)), (.int .i64 (.lit 0))]⟩,
 ⟨none, false, none, iStore 2 (.t 5) (.t 16)⟩,
 ⟨some 6, true, none, iMov (.t 17)⟩])
 (cSeq (cOps [⟨some 18, true, none, iMov (.t 6)⟩])
 (cCond (.t 18) (cSeq (cOps [⟨some 19, false, none, iLoadN 2 (.t 5)⟩,
 ⟨none, false, none, iStore 2 (.t 4) (.t 19)⟩])
 cRet) cSkip)))
 (cSeq (cOps [⟨some 20, false, none, iFaddr 0 (.t 2)⟩,
 ⟨some 21, false, none, iFaddr 0 (.t 20)⟩,
 ⟨some 22, false, none, iLoad (.t 21)⟩,
 ⟨some 23, false, none, iFaddr 0 (.t 3)⟩,
 ⟨some 24, false, none, iLoad (.t 23)⟩,
 ⟨some 25, false, none, iIaddr 6 (.t 22) (.t 24)⟩,
 ⟨some 26, false, none, iLoadN 6 (.t 25)⟩,
 ⟨some 7, true, none, iAlloc 130 [(.int .i64 (.lit 0)), (.int .i64 (.lit 0)), (.int .i64 (.lit 0)), (.int .i64 (.lit 0)), (.int .i64 (.lit 0)), (.int .i64 (.lit 0))]⟩,
 ⟨none, false, none, iStore 6 (.t 7) (.t 26)⟩])
 (cSeq (cOps [⟨some 27, false, none, iFaddr 1 (.t 3)⟩,
 ⟨some 28, false, none, iFaddr 0 (.t 27)⟩,
 ⟨some 29, false, none, iLoad (.t 28)⟩,
 ⟨some 30, false, none, iFaddr 0 (.t 7)⟩,
 ⟨some 31, false, none, iFaddr 0 (.t 30)⟩,
 ⟨some 32, false, none, iLoad (.t 31)⟩,
 ⟨some 33, false, none, iMax [(.t 29), (.t 32)]⟩,
 ⟨some 8, true, none, iMov (.t 33)⟩])
 (cSeq (cOps [⟨some 34, false, none, iMov (.t 8)⟩,
 ⟨some 35, false, none, iFaddr 2 (.t 7)⟩,
 ⟨some 36, false, none, iFaddr 0 (.t 35)⟩,
 ⟨some 37, false, none, iLoad (.t 36)⟩,
 ⟨some 38, false, none, iMax [(.t 34), (.t 37)]⟩,
 ⟨some 9, true, none, iMov (.t 38)⟩])
 (cSeq (cOps [⟨some 10, true, none, iAlloc 313 [(.int .i64 (.lit 0)), (.int .i64 (.lit 0))]⟩])
 (cSeq (cSeq (cOps [⟨some 39, false, none, iMov (.t 8)⟩,
 ⟨some 40, false, none, iFaddr 1 (.t 3)⟩,
 ⟨some 41, false, none, iFaddr 1 (.t 40)⟩,
 ⟨some 42, false, none, iLoad (.t 41)⟩,
 ⟨some 43, false, none, iFaddr 0 (.t 7)⟩,
 ⟨some 44, false, none, iFaddr 1 (.t 43)⟩,
 ⟨some 45, false, none, iLoad (.t 44)⟩,
 ⟨some 46, false, none, iMin [(.t 42), (.t 45)]⟩,
 ⟨some 47, false, none, iCmp .leq (.t 39) (.t 46)⟩,
 ⟨some 48, false, none, iMov (.t 47)⟩,
 ⟨some 49, false, some (48, true), iMov (.t 9)⟩,
 ⟨some 50, false, some (48, true), iFaddr 2 (.t 7)⟩,
 ⟨some 51, false, some (48, true), iFaddr 1 (.t 50)⟩,
 ⟨some 52, false, some (48, true), iLoad (.t 51)⟩,
 ⟨some 53, false, some (48, true), iCmp .leq (.t 49) (.t 52)⟩,
 ⟨some 54, true, none, iPick (.t 48) (.t 53) (.c (.bool (.lit false)))⟩])
 (cCond (.t 54) (cOps [⟨some 55, false, none, iMov (.t 9)⟩,
 ⟨some 56, false, none, iFaddr 2 (.t 7)⟩,
 ⟨some 57, false, none, iFaddr 1 (.t 56)⟩,
 ⟨some 58, false, none, iLoad (.t 57)⟩,
 ⟨some 59, false, none, iArith .add (.t 58) (.c (.int .i64 (.lit 1)))⟩,
 ⟨some 60, false, none, iBuild [(.int .i64 (.lit 0)), (.int .i64 (.lit 0))] [(0, 1, (.t 55)), (1, 1, (.t 59))]⟩,
 ⟨none, false, none, iStore 2 (.t 10) (.t 60)⟩]) cSkip))
 (cSeq (cOps [⟨some 61, false, none, iFaddr 6 (.t 2)⟩,
 ⟨some 62, false, none, iLoad (.t 61)⟩,
 ⟨some 63, false, none, iLoadN 3 (.t 3)⟩,
 ⟨some 64, false, none, iLoadN 2 (.t 10)⟩,
 ⟨none, false, none, iMapset true 3 [(0, .int), (1, .int), (2, .int)] (.t 62) (.t 63) (.t 64)⟩])
 (cSeq (cOps [⟨some 65, false, none, iLoadN 2 (.t 10)⟩,
 ⟨none, false, none, iStore 2 (.t 4) (.t 65)⟩])
 cRet))))))))), [.cell 4 true 2]⟩
noncomputable def Tryz.kp226 : List Nat := [0, 1, 2, 3, 4, 5, 6]
noncomputable def Tryz.cf226 : CF := ⟨3, (cSeq (cOps [⟨some 3, true, none, iBox 247 (.t 0)⟩,
 ⟨some 4, true, none, iBox 3 (.t 1)⟩,
 ⟨some 5, true, none, iBox 3 (.t 2)⟩,
 ⟨some 6, true, none, iAlloc 29 [(.int .i64 (.lit 0)), (.int .i64 (.lit 0))]⟩])
 (cSeq (cOps [⟨some 7, false, none, iFunc (.func 252) [] [(.t 3), (.t 4), (.t 5)]⟩,
 ⟨some 8, false, none, iCall (.c (.func (.func 228) [] [])) [(.t 7)]⟩,
 ⟨none, false, none, iStore 2 (.t 6) (.t 8)⟩])
 cRet)), [.cell 6 true 2]⟩
noncomputable def Tryz.kp227 : List Nat := [0, 1, 2, 4]
noncomputable def Tryz.cf227 : CF := ⟨2, (cSeq (cOps [⟨some 2, true, none, iBox 247 (.t 0)⟩,
 ⟨some 4, true, none, iMov (.c (.bool (.lit false)))⟩])
 (cSeq (cOps [⟨some 5, false, none, iMov (.t 1)⟩,
 ⟨some 6, false, none, iCmp .geq (.t 5) (.c (.int .i64 (.lit 0)))⟩,
 ⟨some 7, false, none, iMov (.t 6)⟩,
 ⟨some 8, false, some (7, true), iMov (.t 1)⟩,
 ⟨some 9, false, some (7, true), iFaddr 0 (.t 2)⟩,
 ⟨some 10, false, some (7, true), iFaddr 0 (.t 9)⟩,
 ⟨some 11, false, some (7, true), iLoad (.t 10)⟩,
 ⟨some 12, false, some (7, true), iLenS (.t 11)⟩,
 ⟨some 13, false, some (7, true), iCmp .lss (.t 8) (.t 12)⟩,
 ⟨some 14, false, none, iPick (.t 7) (.t 13) (.c (.bool (.lit false)))⟩,
 ⟨some 4, true, none, iMov (.t 14)⟩])
 cRet)), [.t 4]⟩
noncomputable def Tryz.kp228 : List Nat := [0, 2, 3, 4]
noncomputable def Tryz.cf228 : CF := ⟨1, (cSeq (cOps [⟨some 2, true, none, iAlloc 29 [(.int .i64 (.lit 0)), (.int .i64 (.lit 0))]⟩])
 (cSeq (cOps [⟨some 6, false, none, iCall (.c (.func (.func 253) [] [])) []⟩,
 ⟨some 5, false, none, iMov (.t 6)⟩,
 ⟨some 7, false, none, iExtract 0 (.t 5)⟩,
 ⟨some 8, false, none, iExtract 1 (.t 5)⟩,
 ⟨some 3, true, none, iAlloc 289 [.nilFunc, .nilFunc]⟩,
 ⟨some 4, true, none, iAlloc 289 [.nilFunc, .nilFunc]⟩,
 ⟨none, false, none, iStore 2 (.t 3) (.t 7)⟩,
 ⟨none, false, none, iStore 2 (.t 4) (.t 8)⟩])
 (cSeq (dOps 0 [⟨⟨some 9, false, none, iMov (.t 0)⟩, [0], false, 0, 0, none, []⟩,
 ⟨⟨some 10, false, none, iLoadN 2 (.t 3)⟩, [3], false, 0, 0, none, []⟩,
 ⟨⟨some 11, false, none, iCall (.t 9) [(.t 10)]⟩, [9, 10], true, 0, 0, none, []⟩,
 ⟨⟨some 12, false, none, iMov (.t 0)⟩, [0], false, 0, 1, none, []⟩,
 ⟨⟨some 13, false, none, iLoadN 2 (.t 4)⟩, [4], false, 0, 1, none, []⟩,
 ⟨⟨some 14, false, none, iCall (.t 12) [(.t 13)]⟩, [12, 13], true, 1, 0, none, []⟩,
 ⟨⟨some 15, false, none, iBuild [(.int .i64 (.lit 0)), (.int .i64 (.lit 0))] [(0, 1, (.t 11)), (1, 1, (.t 14))]⟩, [11, 14], false, 2, 2, none, []⟩,
 ⟨⟨none, false, none, iStore 2 (.t 2) (.t 15)⟩, [2, 15], true, 2, 0, none, []⟩])
 cRet))), [.cell 2 true 2]⟩
noncomputable def Tryz.kp229 : List Nat := [0, 1, 2, 3, 4, 5, 6, 7, 8, 12, 13, 14, 15]
noncomputable def Tryz.cf229 : CF := ⟨4, (cSeq (cOps [⟨some 4, true, none, iBox 289 (.t 0)⟩,
 ⟨some 5, true, none, iMov (.c (.int .i64 (.lit 0)))⟩])
 (cSeq (cOps [⟨some 9, false, none, iLoad (.t 1)⟩,
 ⟨some 10, false, none, iLenS (.t 9)⟩,
 ⟨some 11, false, none, iMkslice 3 [(.int .i64 (.lit 0))] 8 (.t 10) (.t 10)⟩,
 ⟨some 6, true, none, iMov (.t 11)⟩])
 (cSeq (cSeq (cOps [⟨some 12, true, none, iLoad (.t 1)⟩,
 ⟨some 13, true, none, iLenS (.t 12)⟩,
 ⟨some 14, true, none, iMov (.c (.int .i64 (.lit 0)))⟩])
 (cBlock 0 (cLoop (cSeq (cOps [⟨some 15, true, none, iCmp .lss (.t 14) (.t 13)⟩])
 (cSeq (cCond (.t 15) cSkip (cExit 0))
 (cSeq (cBlock 1 (cSeq (cOps [⟨some 16, false, none, iMov (.t 14)⟩,
 ⟨some 17, false, none, iIaddr 1 (.t 12) (.t 14)⟩,
 ⟨some 18, false, none, iLoad (.t 17)⟩,
 ⟨some 7, true, none, iMov (.t 16)⟩,
 ⟨some 8, true, none, iMov (.t 18)⟩])
 (cOps [⟨some 19, false, none, iMov (.t 6)⟩,
 ⟨some 20, false, none, iMov (.t 7)⟩,
 ⟨some 21, false, none, iLoadN 7 (.t 2)⟩,
 ⟨some 22, false, none, iMov (.t 8)⟩,
 ⟨some 23, false, none, iLoad (.t 3)⟩,
 ⟨some 24, false, none, iLoadN 2 (.t 4)⟩,
 ⟨some 25, false, none, iCall (.c (.func (.func 230) [] [])) [(.t 21), (.t 22), (.t 23), (.t 24)]⟩,
 ⟨some 26, false, none, iIaddr 1 (.t 19) (.t 20)⟩,
 ⟨none, false, none, iStore 1 (.t 26) (.t 25)⟩])))
 (cOps [⟨some 27, false, none, iArith .add (.t 14) (.c (.int .i64 (.lit 1)))⟩,
 ⟨some 14, true, none, iMov (.t 27)⟩])))))))
 (cSeq (dOps 0 [⟨⟨some 28, false, none, iMov (.t 6)⟩, [6], false, 0, 0, none, []⟩,
 ⟨⟨some 29, false, none, iCall (.c (.func (.func 231) [] [])) [(.t 28)]⟩, [28], true, 0, 0, none, []⟩,
 ⟨⟨some 30, false, none, iFaddr 0 (.t 4)⟩, [4], false, 0, 1, none, []⟩,
 ⟨⟨some 31, false, none, iLoad (.t 30)⟩, [30], false, 0, 1, none, []⟩,
 ⟨⟨some 32, false, none, iFaddr 0 (.t 2)⟩, [2], false, 0, 1, none, []⟩,
 ⟨⟨some 33, false, none, iFaddr 1 (.t 32)⟩, [32], false, 0, 1, none, []⟩,
 ⟨⟨some 34, false, none, iLoadN 2 (.t 33)⟩, [33], false, 0, 1, none, []⟩,
 ⟨⟨some 35, false, none, iCall (.t 31) [(.t 34)]⟩, [31, 34], true, 1, 0, none, []⟩,
 ⟨⟨some 36, false, none, iArith .mul (.t 29) (.t 35)⟩, [29, 35], false, 2, 2, none, []⟩,
 ⟨⟨some 5, true, none, iMov (.t 36)⟩, [36], false, 2, 2, none, []⟩])
 cRet)))), [.t 5]⟩
noncomputable def Tryz.kp230 : List Nat := [0, 1, 2, 3, 4, 7, 8, 9, 10]
noncomputable def Tryz.cf230 : CF := ⟨4, (cSeq (cOps [⟨some 4, true, none, iBox 247 (.t 0)⟩,
 ⟨some 7, true, none, iBox 289 (.t 3)⟩,
 ⟨some 8, true, none, iMov (.c (.int .i64 (.lit 0)))⟩])
 (cSeq (dOps 0 [⟨⟨some 11, false, none, iFaddr 0 (.t 7)⟩, [7], false, 0, 0, none, []⟩,
 ⟨⟨some 12, false, none, iLoad (.t 11)⟩, [11], false, 0, 0, none, []⟩,
 ⟨⟨some 13, false, none, iFaddr 0 (.t 4)⟩, [4], false, 0, 0, none, []⟩,
 ⟨⟨some 14, false, none, iFaddr 0 (.t 13)⟩, [13], false, 0, 0, none, []⟩,
 ⟨⟨some 15, false, none, iLoad (.t 14)⟩, [14], false, 0, 0, none, []⟩,
 ⟨⟨some 16, false, none, iMov (.t 1)⟩, [1], false, 0, 0, none, []⟩,
 ⟨⟨some 17, false, none, iIaddr 6 (.t 15) (.t 16)⟩, [15, 16], false, 0, 0, none, []⟩,
 ⟨⟨some 18, false, none, iFaddr 4 (.t 17)⟩, [17], false, 0, 0, none, []⟩,
 ⟨⟨some 19, false, none, iLoadN 2 (.t 18)⟩, [18], false, 0, 0, none, []⟩,
 ⟨⟨some 20, false, none, iCall (.t 12) [(.t 19)]⟩, [12, 19], true, 0, 0, none, []⟩,
 ⟨⟨some 21, false, none, iFaddr 1 (.t 7)⟩, [7], false, 0, 1, none, []⟩,
 ⟨⟨some 22, false, none, iLoad (.t 21)⟩, [21], false, 0, 1, none, []⟩,
 ⟨⟨some 23, false, none, iFaddr 0 (.t 4)⟩, [4], false, 0, 1, none, []⟩,
 ⟨⟨some 24, false, none, iFaddr 3 (.t 23)⟩, [23], false, 0, 1, none, []⟩,
 ⟨⟨some 25, false, none, iLoadN 2 (.t 24)⟩, [24], false, 0, 1, none, []⟩,
 ⟨⟨some 26, false, none, iCall (.t 22) [(.t 25)]⟩, [22, 25], true, 1, 0, none, []⟩,
 ⟨⟨some 9, true, none, iMov (.t 20)⟩, [20], false, 2, 2, none, []⟩,
 ⟨⟨some 10, true, none, iMov (.t 26)⟩, [26], false, 2, 2, none, []⟩])
 (cSeq (cOps [⟨some 27, false, none, iMov (.t 9)⟩,
 ⟨some 28, false, none, iMov (.t 2)⟩,
 ⟨some 29, false, none, iMov (.t 10)⟩,
 ⟨some 30, false, none, iArith .mul (.t 28) (.t 29)⟩,
 ⟨some 31, false, none, iArith .sub (.t 27) (.t 30)⟩,
 ⟨some 32, false, none, iMax [(.c (.int .i64 (.lit 0))), (.t 31)]⟩,
 ⟨some 8, true, none, iMov (.t 32)⟩])
 cRet))), [.t 8]⟩
noncomputable def Tryz.kp231 : List Nat := [0, 2, 3, 5, 6, 7, 8, 9]
noncomputable def Tryz.cf231 : CF := ⟨1, (cSeq (cOps [⟨some 2, true, none, iMov (.c (.int .i64 (.lit 0)))⟩])
 (cSeq (cOps [⟨some 3, true, none, iMov (.c (.int .i64 (.lit 0)))⟩])
 (cSeq (cSeq (cOps [⟨some 6, true, none, iMov (.t 0)⟩,
 ⟨some 7, true, none, iLenS (.t 6)⟩,
 ⟨some 8, true, none, iMov (.c (.int .i64 (.lit 0)))⟩])
 (cBlock 0 (cLoop (cSeq (cOps [⟨some 9, true, none, iCmp .lss (.t 8) (.t 7)⟩])
 (cSeq (cCond (.t 9) cSkip (cExit 0))
 (cSeq (cBlock 1 (cSeq (cOps [⟨some 10, false, none, iIaddr 1 (.t 6) (.t 8)⟩,
 ⟨some 11, false, none, iLoad (.t 10)⟩,
 ⟨some 5, true, none, iMov (.t 11)⟩])
 (cOps [⟨some 12, false, none, iMov (.t 3)⟩,
 ⟨some 13, false, none, iMov (.t 5)⟩,
 ⟨some 14, false, none, iArith .add (.t 12) (.t 13)⟩,
 ⟨some 3, true, none, iMov (.t 14)⟩])))
 (cOps [⟨some 15, false, none, iArith .add (.t 8) (.c (.int .i64 (.lit 1)))⟩,
 ⟨some 8, true, none, iMov (.t 15)⟩])))))))
 (cSeq (cOps [⟨some 16, false, none, iMov (.t 3)⟩,
 ⟨some 2, true, none, iMov (.t 16)⟩])
 cRet)))), [.t 2]⟩
noncomputable def Tryz.kp235 : List Nat := [0, 1, 2, 3, 4]
noncomputable def Tryz.cf235 : CF := ⟨2, (cSeq (cOps [⟨some 2, true, none, iBox 151 (.t 0)⟩,
 ⟨some 3, true, none, iBox 191 (.t 1)⟩,
 ⟨some 4, true, none, iMov (.c (.bool (.lit false)))⟩])
 (cSeq (cOps [⟨some 5, false, none, iFaddr 0 (.t 3)⟩,
 ⟨some 6, false, none, iLoad (.t 5)⟩,
 ⟨some 7, false, none, iCmp .geq (.t 6) (.c (.int .i64 (.lit 0)))⟩,
 ⟨some 8, false, none, iMov (.t 7)⟩,
 ⟨some 9, false, some (8, true), iFaddr 0 (.t 3)⟩,
 ⟨some 10, false, some (8, true), iLoad (.t 9)⟩,
 ⟨some 11, false, some (8, true), iFaddr 0 (.t 2)⟩,
 ⟨some 12, false, some (8, true), iFaddr 0 (.t 11)⟩,
 ⟨some 13, false, some (8, true), iLoad (.t 12)⟩,
 ⟨some 14, false, some (8, true), iLenS (.t 13)⟩,
 ⟨some 15, false, some (8, true), iCmp .lss (.t 10) (.t 14)⟩,
 ⟨some 16, false, none, iPick (.t 8) (.t 15) (.c (.bool (.lit false)))⟩,
 ⟨some 17, false, none, iMov (.t 16)⟩,
 ⟨some 18, false, some (17, true), iFaddr 1 (.t 3)⟩,
 ⟨some 19, false, some (17, true), iLoad (.t 18)⟩,
 ⟨some 20, false, some (17, true), iCall (.c (.func (.func 132) [] [])) [(.t 19)]⟩,
 ⟨some 21, false, none, iPick (.t 17) (.t 20) (.c (.bool (.lit false)))⟩,
 ⟨some 4, true, none, iMov (.t 21)⟩])
 cRet)), [.t 4]⟩
noncomputable def Tryz.kp236 : List Nat := [0, 1, 2, 3, 4, 6, 8, 9, 10, 11, 12, 28]
noncomputable def Tryz.cf236 : CF := ⟨3, (cSeq (cOps [⟨some 3, true, none, iBox 151 (.t 0)⟩,
 ⟨some 4, true, none, iBox 191 (.t 1)⟩,
 ⟨some 6, true, none, iMov (.c (.bool (.lit false)))⟩])
 (cSeq (cSeq (cOps [⟨some 9, true, none, iMov (.t 2)⟩,
 ⟨some 10, true, none, iLenS (.t 9)⟩,
 ⟨some 11, true, none, iMov (.c (.int .i64 (.lit 0)))⟩])
 (cBlock 0 (cLoop (cSeq (cOps [⟨some 12, true, none, iCmp .lss (.t 11) (.t 10)⟩])
 (cSeq (cCond (.t 12) cSkip (cExit 0))
 (cSeq (cBlock 1 (cSeq (cOps [⟨some 13, false, none, iIaddr 2 (.t 9) (.t 11)⟩,
 ⟨some 14, false, none, iLoadN 2 (.t 13)⟩,
 ⟨some 8, true, none, iAlloc 191 [(.int .i64 (.lit 0)), (.int .i64 (.lit 0))]⟩,
 ⟨none, false, none, iStore 2 (.t 8) (.t 14)⟩])
 (cSeq (dOps 0 [⟨⟨some 15, false, none, iFaddr 1 (.t 4)⟩, [4], false, 0, 1, none, []⟩,
 ⟨⟨some 16, false, none, iLoad (.t 15)⟩, [15], false, 0, 1, none, []⟩,
 ⟨⟨some 17, false, none, iLoadN 6 (.t 3)⟩, [3], false, 0, 0, none, []⟩,
 ⟨⟨some 18, false, none, iLoadN 2 (.t 8)⟩, [8], false, 0, 0, none, []⟩,
 ⟨⟨some 19, false, none, iCall (.c (.func (.func 240) [] [])) [(.t 17), (.t 18)]⟩, [17, 18], true, 0, 0, none, []⟩,
 ⟨⟨some 20, false, none, iCmp .lss (.t 16) (.t 19)⟩, [16, 19], false, 1, 1, none, []⟩,
 ⟨⟨some 21, false, none, iMov (.t 20)⟩, [20], false, 1, 1, none, []⟩,
 ⟨⟨some 22, false, some (21, true), iFaddr 1 (.t 8)⟩, [21, 8], false, 1, 2, none, []⟩,
 ⟨⟨some 23, false, some (21, true), iLoad (.t 22)⟩, [21, 22], false, 1, 2, none, []⟩,
 ⟨⟨some 24, false, some (21, true), iLoadN 6 (.t 3)⟩, [21, 3], false, 1, 1, none, []⟩,
 ⟨⟨some 25, false, some (21, true), iLoadN 2 (.t 4)⟩, [21, 4], false, 1, 1, none, []⟩,
 ⟨⟨some 26, false, some (21, true), iCall (.c (.func (.func 240) [] [])) [(.t 24), (.t 25)]⟩, [21, 24, 25], true, 1, 0, none, []⟩,
 ⟨⟨some 27, false, some (21, true), iCmp .lss (.t 23) (.t 26)⟩, [21, 23, 26], false, 2, 2, none, []⟩,
 ⟨⟨some 28, true, none, iPick (.t 21) (.t 27) (.c (.bool (.lit false)))⟩, [21, 27], false, 2, 2, none, []⟩])
 (cCond (.t 28) (cSeq (cOps [⟨some 6, true, none, iMov (.c (.bool (.lit false)))⟩])
 cRet) cSkip))))
 (cOps [⟨some 29, false, none, iArith .add (.t 11) (.c (.int .i64 (.lit 1)))⟩,
 ⟨some 11, true, none, iMov (.t 29)⟩])))))))
 (cSeq (cOps [⟨some 6, true, none, iMov (.c (.bool (.lit true)))⟩])
 cRet))), [.t 6]⟩
noncomputable def Tryz.kp240 : List Nat := [0, 1, 2, 3, 4]
noncomputable def Tryz.cf240 : CF := ⟨2, (cSeq (cOps [⟨some 2, true, none, iBox 151 (.t 0)⟩,
 ⟨some 3, true, none, iBox 191 (.t 1)⟩,
 ⟨some 4, true, none, iMov (.c (.int .i64 (.lit 0)))⟩])
 (cSeq (dOps 0 [⟨⟨some 5, false, none, iLoadN 6 (.t 2)⟩, [2], false, 0, 0, none, []⟩,
 ⟨⟨some 6, false, none, iLoadN 2 (.t 3)⟩, [3], false, 0, 0, none, []⟩,
 ⟨⟨some 7, false, none, iCall (.c (.func (.func 256) [] [])) [(.t 5), (.t 6)]⟩, [5, 6], true, 0, 0, none, []⟩,
 ⟨⟨some 8, false, none, iFaddr 0 (.t 2)⟩, [2], false, 0, 1, none, []⟩,
 ⟨⟨some 9, false, none, iFaddr 1 (.t 8)⟩, [8], false, 0, 1, none, []⟩,
 ⟨⟨some 10, false, none, iLoad (.t 9)⟩, [9], false, 0, 1, none, []⟩,
 ⟨⟨some 11, false, none, iBslice 3 [(.int .i64 (.lit 0))] 2 [(0, 1, (.t 7)), (1, 1, (.t 10))]⟩, [7, 10], true, 1, 0, none, []⟩,
 ⟨⟨some 12, false, none, iCall (.c (.func (.func 190) [] [])) [(.t 11)]⟩, [11], true, 2, 0, none, []⟩,
 ⟨⟨some 4, true, none, iMov (.t 12)⟩, [12], false, 3, 3, none, []⟩])
 cRet)), [.t 4]⟩
noncomputable def Tryz.kp244 : List Nat := [0, 1, 2, 3, 4, 6]
noncomputable def Tryz.cf244 : CF := ⟨3, (cSeq (cOps [⟨some 3, true, none, iBox 151 (.t 0)⟩,
 ⟨some 4, true, none, iBox 191 (.t 1)⟩,
 ⟨some 6, true, none, iMov (.c (.bool (.lit false)))⟩])
 (cSeq (cOps [⟨some 7, false, none, iFaddr 1 (.t 4)⟩,
 ⟨some 8, false, none, iLoad (.t 7)⟩,
 ⟨some 9, false, none, iMov (.t 2)⟩,
 ⟨some 10, false, none, iCmp .leq (.t 8) (.t 9)⟩,
 ⟨some 11, false, none, iMov (.t 10)⟩,
 ⟨some 12, false, some (11, true), iMov (.t 2)⟩,
 ⟨some 13, false, some (11, true), iLoadN 6 (.t 3)⟩,
 ⟨some 14, false, some (11, true), iLoadN 2 (.t 4)⟩,
 ⟨some 15, false, some (11, true), iCall (.c (.func (.func 256) [] [])) [(.t 13), (.t 14)]⟩,
 ⟨some 16, false, some (11, true), iCmp .lss (.t 12) (.t 15)⟩,
 ⟨some 17, false, none, iPick (.t 11) (.t 16) (.c (.bool (.lit false)))⟩,
 ⟨some 6, true, none, iMov (.t 17)⟩])
 cRet)), [.t 6]⟩
noncomputable def Tryz.kp245 : List Nat := [0, 1, 4]
noncomputable def Tryz.cf245 : CF := ⟨2, (cSeq (cOps [⟨some 4, true, none, iMov (.c (.bool (.lit false)))⟩])
 (cSeq (cOps [⟨some 5, false, none, iMov (.t 0)⟩,
 ⟨some 6, false, none, iMov (.t 1)⟩,
 ⟨some 7, false, none, iCall (.c (.func (.func 257) [] [])) [(.t 5), (.t 6)]⟩,
 ⟨some 8, false, none, iCmp .geq (.t 7) (.c (.int .i64 (.lit 0)))⟩,
 ⟨some 4, true, none, iMov (.t 8)⟩])
 cRet)), [.t 4]⟩
noncomputable def Tryz.kp246 : List Nat := [0, 1, 3, 4]
noncomputable def Tryz.cf246 : CF := ⟨2, (cSeq (cOps [⟨some 3, true, none, iBox 29 (.t 1)⟩,
 ⟨some 4, true, none, iMov (.c (.bool (.lit false)))⟩])
 (cSeq (cOps [⟨some 5, false, none, iMov (.t 0)⟩,
 ⟨some 6, false, none, iLoadN 2 (.t 3)⟩,
 ⟨some 7, false, none, iCall (.c (.func (.func 201) [] [])) [(.t 5), (.t 6)]⟩,
 ⟨some 4, true, none, iMov (.t 7)⟩])
 cRet)), [.t 4]⟩
noncomputable def Tryz.kp248 : List Nat := [0, 2]
noncomputable def Tryz.cf248 : CF := ⟨1, (cSeq (cOps [⟨some 2, true, none, iMov (.c (.bool (.lit false)))⟩])
 (cSeq (cOps [⟨some 3, false, none, iMov (.t 0)⟩,
 ⟨some 4, false, none, iMov (.t 0)⟩,
 ⟨some 5, false, none, iCmp .neq (.t 3) (.t 4)⟩,
 ⟨some 2, true, none, iMov (.t 5)⟩])
 cRet)), [.t 2]⟩
noncomputable def Tryz.kp249 : List Nat := [0, 1, 2, 3, 4, 5, 10]
noncomputable def Tryz.cf249 : CF := ⟨3, (cSeq (cOps [⟨some 3, true, none, iBox 118 (.t 0)⟩])
 (cSeq (cOps [⟨some 6, false, none, iMkslice 3 [(.int .i64 (.lit 0))] 8 (.c (.int .i64 (.lit 6))) (.c (.int .i64 (.lit 6)))⟩,
 ⟨some 4, true, none, iAlloc 32 [.nilslice]⟩,
 ⟨none, false, none, iStore 1 (.t 4) (.t 6)⟩])
 (cSeq (cOps [⟨some 5, true, none, iAlloc 311 [.nilFunc]⟩])
 (cSeq (cOps [⟨some 7, false, none, iFunc (.func 250) [] [(.t 3), (.t 4), (.t 1), (.t 5)]⟩,
 ⟨none, false, none, iStore 1 (.t 5) (.t 7)⟩])
 (cSeq (cOps [⟨some 8, false, none, iLoadN 6 (.t 2)⟩,
 ⟨some 9, false, none, iBuild [(.bool (.lit false)), (.bool (.lit false)), (.bool (.lit false)), (.bool (.lit false)), (.bool (.lit false)), (.bool (.lit false))] []⟩,
 ⟨some 10, true, none, iEq true true 6 [(0, .bool), (1, .bool), (2, .bool), (3, .bool), (4, .bool), (5, .bool)] (.t 8) (.t 9)⟩])
 (cCond (.t 10) (dOps 0 [⟨⟨some 11, false, none, iLoad (.t 5)⟩, [5], false, 0, 1, none, []⟩,
 ⟨⟨some 12, false, none, iLoadN 6 (.t 2)⟩, [2], false, 0, 1, none, []⟩,
 ⟨⟨some 13, false, none, iCall (.c (.func (.func 251) [] [])) []⟩, [], true, 0, 0, none, []⟩,
 ⟨⟨some 14, false, none, iCall (.t 11) [(.c (.int .i64 (.lit 0))), (.t 12), (.t 13)]⟩, [11, 12, 13], true, 1, 0, none, []⟩]) cSkip)))))), []⟩
noncomputable def Tryz.kp250 : List Nat := [0, 1, 2, 3, 4, 5, 6, 8, 9, 10, 11, 12, 13, 16, 23, 24, 29, 37, 51]
noncomputable def Tryz.cf250 : CF := ⟨7, (cSeq (cOps [⟨some 8, true, none, iBox 283 (.t 1)⟩,
 ⟨some 9, true, none, iBox 313 (.t 2)⟩,
 ⟨some 10, true, none, iMov (.c (.bool (.lit false)))⟩])
 (cSeq (cSeq (cOps [⟨some 14, false, none, iLoadN 6 (.t 8)⟩,
 ⟨some 15, false, none, iBuild [(.bool (.lit false)), (.bool (.lit false)), (.bool (.lit false)), (.bool (.lit false)), (.bool (.lit false)), (.bool (.lit false))] []⟩,
 ⟨some 16, true, none, iEq false true 6 [(0, .bool), (1, .bool), (2, .bool), (3, .bool), (4, .bool), (5, .bool)] (.t 14) (.t 15)⟩])
 (cCond (.t 16) (cSeq (dOps 0 [⟨⟨some 17, false, none, iLoad (.t 3)⟩, [3], false, 0, 0, none, []⟩,
 ⟨⟨some 18, false, none, iLoad (.t 4)⟩, [4], false, 0, 0, none, []⟩,
 ⟨⟨some 19, false, none, iMov (.t 0)⟩, [0], false, 0, 0, none, []⟩,
 ⟨⟨some 20, false, none, iMov (.t 0)⟩, [0], false, 0, 0, none, []⟩,
 ⟨⟨some 21, false, none, iSlice 1 (.t 18) none (some (.t 19)) (some (.t 20))⟩, [18, 19, 20], false, 0, 0, none, []⟩,
 ⟨⟨some 22, false, none, iCall (.t 17) [(.t 21)]⟩, [17, 21], true, 0, 0, none, []⟩,
 ⟨⟨some 10, true, none, iMov (.t 22)⟩, [22], false, 1, 1, none, []⟩])
 cRet) cSkip))
 (cSeq cSkip
 (cSeq (cSeq (cOps [⟨some 23, true, none, iMov (.c (.int .i64 (.lit 0)))⟩])
 (cBlock 0 (cLoop (cSeq (cOps [⟨some 24, true, none, iCmp .lss (.t 23) (.c (.int .i64 (.lit 6)))⟩])
 (cSeq (cCond (.t 24) cSkip (cExit 0))
 (cSeq (cBlock 1 (cSeq (cOps [⟨some 25, false, none, iMov (.t 23)⟩,
 ⟨some 11, true, none, iMov (.t 25)⟩])
 (cSeq (cSeq (cOps [⟨some 26, false, none, iMov (.t 11)⟩,
 ⟨some 27, false, none, iIaddrA 1 6 (.t 8) (.t 26)⟩,
 ⟨some 28, false, none, iLoad (.t 27)⟩,
 ⟨some 29, true, none, iNot (.t 28)⟩])
 (cCond (.t 29) (cExit 1) cSkip))
 (cSeq (cOps [⟨some 30, false, none, iLoad (.t 5)⟩,
 ⟨some 31, false, none, iMov (.t 11)⟩,
 ⟨some 32, false, none, iLoadN 2 (.t 9)⟩,
 ⟨some 33, false, none, iBuild [(.int .i64 (.lit 0)), (.int .i64 (.lit 0)), (.int .i64 (.lit 0))] [(0, 1, (.t 31)), (1, 2, (.t 32))]⟩,
 ⟨some 34, false, none, iCall (.t 30) [(.t 33)]⟩,
 ⟨some 12, true, none, iAlloc 313 [(.int .i64 (.lit 0)), (.int .i64 (.lit 0))]⟩,
 ⟨none, false, none, iStore 2 (.t 12) (.t 34)⟩])
 (cSeq (cSeq (cOps [⟨some 35, false, none, iLoadN 2 (.t 12)⟩,
 ⟨some 36, false, none, iBuild [(.int .i64 (.lit 0)), (.int .i64 (.lit 0))] []⟩,
 ⟨some 37, true, none, iEq false true 2 [(0, .int), (1, .int)] (.t 35) (.t 36)⟩])
 (cCond (.t 37) (cExit 1) cSkip))
 (cSeq (cOps [⟨some 38, false, none, iLoad (.t 4)⟩,
 ⟨some 39, false, none, iMov (.t 0)⟩,
 ⟨some 40, false, none, iMov (.t 11)⟩,
 ⟨some 41, false, none, iIaddr 1 (.t 38) (.t 39)⟩,
 ⟨none, false, none, iStore 1 (.t 41) (.t 40)⟩])
 (cSeq (cOps [⟨some 42, false, none, iLoadN 6 (.t 8)⟩,
 ⟨some 13, true, none, iAlloc 283 [(.bool (.lit false)), (.bool (.lit false)), (.bool (.lit false)), (.bool (.lit false)), (.bool (.lit false)), (.bool (.lit false))]⟩,
 ⟨none, false, none, iStore 6 (.t 13) (.t 42)⟩])
 (cSeq (cOps [⟨some 43, false, none, iMov (.t 11)⟩,
 ⟨some 44, false, none, iIaddrA 1 6 (.t 13) (.t 43)⟩,
 ⟨none, false, none, iStore 1 (.t 44) (.c (.bool (.lit false)))⟩])
 (cSeq (cOps [⟨some 45, false, none, iLoad (.t 6)⟩,
 ⟨some 46, false, none, iMov (.t 0)⟩,
 ⟨some 47, false, none, iArith .add (.t 46) (.c (.int .i64 (.lit 1)))⟩,
 ⟨some 48, false, none, iLoadN 6 (.t 13)⟩,
 ⟨some 49, false, none, iLoadN 2 (.t 12)⟩,
 ⟨some 50, false, none, iCall (.t 45) [(.t 47), (.t 48), (.t 49)]⟩,
 ⟨some 51, true, none, iNot (.t 50)⟩])
 (cCond (.t 51) (cSeq (cOps [⟨some 10, true, none, iMov (.c (.bool (.lit false)))⟩])
 cRet) cSkip))))))))))
 (cOps [⟨some 52, false, none, iArith .add (.t 23) (.c (.int .i64 (.lit 1)))⟩,
 ⟨some 23, true, none, iMov (.t 52)⟩])))))))
 (cSeq (cOps [⟨some 10, true, none, iMov (.c (.bool (.lit true)))⟩])
 cRet))))), [.t 10]⟩
noncomputable def Tryz.kp251 : List Nat := [0]
noncomputable def Tryz.cf251 : CF := ⟨0, (cSeq (cOps [⟨some 0, true, none, iAlloc 313 [(.int .i64 (.lit 0)), (.int .i64 (.lit 0))]⟩])
 (cSeq (cOps [⟨some 1, false, none, iBuild [(.int .i64 (.lit 0)), (.int .i64 (.lit 0))] [(0, 1, (.c (.int .i64 (.lit 0)))), (1, 1, (.c (.int .i64 (.lit 100))))]⟩,
 ⟨none, false, none, iStore 2 (.t 0) (.t 1)⟩])
 cRet)), [.cell 0 true 2]⟩
noncomputable def Tryz.kp252 : List Nat := [0, 1, 2, 3, 4, 5]
noncomputable def Tryz.cf252 : CF := ⟨4, (cSeq (cOps [⟨some 4, true, none, iBox 289 (.t 0)⟩,
 ⟨some 5, true, none, iMov (.c (.int .i64 (.lit 0)))⟩])
 (cSeq (cOps [⟨some 6, false, none, iLoadN 7 (.t 1)⟩,
 ⟨some 7, false, none, iLoad (.t 2)⟩,
 ⟨some 8, false, none, iLoad (.t 3)⟩,
 ⟨some 9, false, none, iLoadN 2 (.t 4)⟩,
 ⟨some 10, false, none, iCall (.c (.func (.func 230) [] [])) [(.t 6), (.t 7), (.t 8), (.t 9)]⟩,
 ⟨some 5, true, none, iMov (.t 10)⟩])
 cRet)), [.t 5]⟩
noncomputable def Tryz.kp253 : List Nat := [0, 1, 2]
noncomputable def Tryz.cf253 : CF := ⟨0, (cSeq (cOps [⟨some 0, true, none, iAlloc 289 [.nilFunc, .nilFunc]⟩,
 ⟨some 1, true, none, iAlloc 289 [.nilFunc, .nilFunc]⟩])
 (cSeq (cOps [⟨some 3, false, none, iBuild [.nilFunc, .nilFunc] [(0, 1, (.c (.func (.func 259) [] []))), (1, 1, (.c (.func (.func 260) [] [])))]⟩,
 ⟨some 4, false, none, iBuild [.nilFunc, .nilFunc] [(0, 1, (.c (.func (.func 260) [] []))), (1, 1, (.c (.func (.func 259) [] [])))]⟩,
 ⟨some 5, false, none, iBuild [.nilFunc, .nilFunc, .nilFunc, .nilFunc] [(0, 2, (.t 3)), (2, 2, (.t 4))]⟩,
 ⟨some 2, true, none, iAlloc 324 [.nilFunc, .nilFunc, .nilFunc, .nilFunc]⟩,
 ⟨none, false, none, iStore 4 (.t 2) (.t 5)⟩])
 (cSeq (dOps 0 [⟨⟨some 6, false, none, iIaddrA 2 2 (.t 2) (.c (.int .i64 (.lit 0)))⟩, [2], false, 0, 0, none, []⟩,
 ⟨⟨some 7, false, none, iLoadN 2 (.t 6)⟩, [6], false, 0, 0, none, []⟩,
 ⟨⟨some 8, false, none, iIaddrA 2 2 (.t 2) (.c (.int .i64 (.lit 1)))⟩, [2], false, 0, 1, none, []⟩,
 ⟨⟨some 9, false, none, iLoadN 2 (.t 8)⟩, [8], false, 0, 1, none, []⟩,
 ⟨⟨none, false, none, iStore 2 (.t 0) (.t 7)⟩, [0, 7], true, 0, 0, none, []⟩,
 ⟨⟨none, false, none, iStore 2 (.t 1) (.t 9)⟩, [1, 9], true, 1, 0, none, []⟩])
 cRet))), [.cell 0 true 2, .cell 1 true 2]⟩
noncomputable def Tryz.kp256 : List Nat := [0, 1, 2, 3, 4]
noncomputable def Tryz.cf256 : CF := ⟨2, (cSeq (cOps [⟨some 2, true, none, iBox 151 (.t 0)⟩,
 ⟨some 3, true, none, iBox 191 (.t 1)⟩,
 ⟨some 4, true, none, iMov (.c (.int .i64 (.lit 0)))⟩])
 (cSeq (dOps 0 [⟨⟨some 5, false, none, iFaddr 1 (.t 3)⟩, [3], false, 0, 0, none, []⟩,
 ⟨⟨some 6, false, none, iLoad (.t 5)⟩, [5], false, 0, 0, none, []⟩,
 ⟨⟨some 7, false, none, iFaddr 0 (.t 2)⟩, [2], false, 0, 0, none, []⟩,
 ⟨⟨some 8, false, none, iFaddr 0 (.t 7)⟩, [7], false, 0, 0, none, []⟩,
 ⟨⟨some 9, false, none, iLoad (.t 8)⟩, [8], false, 0, 0, none, []⟩,
 ⟨⟨some 10, false, none, iFaddr 0 (.t 3)⟩, [3], false, 0, 0, none, []⟩,
 ⟨⟨some 11, false, none, iLoad (.t 10)⟩, [10], false, 0, 0, none, []⟩,
 ⟨⟨some 12, false, none, iIaddr 3 (.t 9) (.t 11)⟩, [9, 11], false, 0, 0, none, []⟩,
 ⟨⟨some 13, false, none, iFaddr 0 (.t 12)⟩, [12], false, 0, 0, none, []⟩,
 ⟨⟨some 14, false, none, iLoad (.t 13)⟩, [13], false, 0, 0, none, []⟩,
 ⟨⟨some 15, false, none, iBslice 3 [(.int .i64 (.lit 0))] 2 [(0, 1, (.t 6)), (1, 1, (.t 14))]⟩, [6, 14], true, 0, 0, none, []⟩,
 ⟨⟨some 16, false, none, iCall (.c (.func (.func 190) [] [])) [(.t 15)]⟩, [15], true, 1, 0, none, []⟩,
 ⟨⟨some 4, true, none, iMov (.t 16)⟩, [16], false, 2, 2, none, []⟩])
 cRet)), [.t 4]⟩
noncomputable def Tryz.kp257 : List Nat := [0, 1, 4, 5, 7, 8, 9, 16]
noncomputable def Tryz.cf257 : CF := ⟨2, (cSeq (cOps [⟨some 4, true, none, iMov (.c (.int .i64 (.lit 0)))⟩])
 (cSeq (cSeq (cOps [⟨some 6, false, none, iMov (.t 0)⟩,
 ⟨some 7, true, none, iLenS (.t 6)⟩,
 ⟨some 8, true, none, iMov (.c (.int .i64 (.lit 0)))⟩])
 (cBlock 0 (cLoop (cSeq (cOps [⟨some 9, true, none, iCmp .lss (.t 8) (.t 7)⟩])
 (cSeq (cCond (.t 9) cSkip (cExit 0))
 (cSeq (cBlock 1 (cSeq (cOps [⟨some 10, false, none, iMov (.t 8)⟩,
 ⟨some 5, true, none, iMov (.t 10)⟩])
 (cSeq (cOps [⟨some 11, false, none, iMov (.t 1)⟩,
 ⟨some 12, false, none, iMov (.t 0)⟩,
 ⟨some 13, false, none, iMov (.t 5)⟩,
 ⟨some 14, false, none, iIaddr 2 (.t 12) (.t 13)⟩,
 ⟨some 15, false, none, iLoadN 2 (.t 14)⟩,
 ⟨some 16, true, none, iCall (.t 11) [(.t 15)]⟩])
 (cCond (.t 16) (cSeq (cOps [⟨some 17, false, none, iMov (.t 5)⟩,
 ⟨some 4, true, none, iMov (.t 17)⟩])
 cRet) cSkip))))
 (cOps [⟨some 18, false, none, iArith .add (.t 8) (.c (.int .i64 (.lit 1)))⟩,
 ⟨some 8, true, none, iMov (.t 18)⟩])))))))
 (cSeq (cOps [⟨some 4, true, none, iMov (.c (.int .i64 (.lit (-1))))⟩])
 cRet))), [.t 4]⟩
noncomputable def Tryz.kp259 : List Nat := [0, 1, 2]
noncomputable def Tryz.cf259 : CF := ⟨1, (cSeq (cOps [⟨some 1, true, none, iBox 291 (.t 0)⟩,
 ⟨some 2, true, none, iMov (.c (.int .i64 (.lit 0)))⟩])
 (cSeq (cOps [⟨some 3, false, none, iFaddr 0 (.t 1)⟩,
 ⟨some 4, false, none, iLoad (.t 3)⟩,
 ⟨some 2, true, none, iMov (.t 4)⟩])
 cRet)), [.t 2]⟩
noncomputable def Tryz.kp260 : List Nat := [0, 1, 2]
noncomputable def Tryz.cf260 : CF := ⟨1, (cSeq (cOps [⟨some 1, true, none, iBox 291 (.t 0)⟩,
 ⟨some 2, true, none, iMov (.c (.int .i64 (.lit 0)))⟩])
 (cSeq (cOps [⟨some 3, false, none, iFaddr 1 (.t 1)⟩,
 ⟨some 4, false, none, iLoad (.t 3)⟩,
 ⟨some 2, true, none, iMov (.t 4)⟩])
 cRet)), [.t 2]⟩
noncomputable def Tryz.ft : PT CF := (.node none (.node none (.node none (.node none (.node none (.node none (.node (some Tryz.cf63) (.node (some Tryz.cf127) .nil .nil) .nil) (.node none .nil (.node (some Tryz.cf223) .nil .nil))) (.node (some Tryz.cf47) (.node (some Tryz.cf79) .nil .nil) (.node none (.node (some Tryz.cf175) .nil .nil) .nil))) (.node (some Tryz.cf23) (.node none (.node none (.node (some Tryz.cf135) .nil .nil) .nil) (.node (some Tryz.cf103) (.node (some Tryz.cf167) .nil .nil) (.node (some Tryz.cf231) .nil .nil))) (.node none (.node none .nil (.node (some Tryz.cf215) .nil .nil)) (.node (some Tryz.cf119) (.node (some Tryz.cf183) .nil .nil) .nil)))) (.node (some Tryz.cf11) (.node none (.node none (.node none (.node (some Tryz.cf131) (.node (some Tryz.cf259) .nil .nil) .nil) .nil) (.node none .nil (.node (some Tryz.cf227) .nil .nil))) (.node none (.node (some Tryz.cf83) .nil (.node (some Tryz.cf211) .nil .nil)) (.node (some Tryz.cf115) (.node (some Tryz.cf179) .nil .nil) .nil))) (.node (some Tryz.cf27) (.node none (.node (some Tryz.cf75) .nil (.node (some Tryz.cf203) .nil .nil)) (.node none (.node (some Tryz.cf171) .nil .nil) (.node (some Tryz.cf235) .nil .nil))) (.node none (.node none (.node (some Tryz.cf155) .nil .nil) (.node (some Tryz.cf219) .nil .nil)) (.node (some Tryz.cf123) (.node (some Tryz.cf187) .nil .nil) (.node (some Tryz.cf251) .nil .nil)))))) (.node none (.node none (.node none (.node none (.node none (.node (some Tryz.cf129) (.node (some Tryz.cf257) .nil .nil) .nil) .nil) (.node none .nil (.node (some Tryz.cf225) .nil .nil))) (.node none (.node (some Tryz.cf81) .nil .nil) (.node (some Tryz.cf113) (.node (some Tryz.cf177) .nil .nil) .nil))) (.node (some Tryz.cf25) (.node none (.node none .nil (.node (some Tryz.cf201) .nil .nil)) (.node (some Tryz.cf105) (.node (some Tryz.cf169) .nil .nil) .nil)) (.node none (.node none (.node (some Tryz.cf153) .nil .nil) .nil) (.node (some Tryz.cf121) (.node (some Tryz.cf185) .nil .nil) (.node (some Tryz.cf249) .nil .nil))))) (.node none (.node (some Tryz.cf21) (.node none (.node (some Tryz.cf69) (.node (some Tryz.cf133) .nil .nil) .nil) (.node (some Tryz.cf101) (.node (some Tryz.cf165) .nil .nil) (.node (some Tryz.cf229) .nil .nil))) (.node none .nil (.node (some Tryz.cf117) (.node (some Tryz.cf181) .nil .nil) (.node (some Tryz.cf245) .nil .nil)))) (.node (some Tryz.cf29) (.node none .nil (.node none (.node (some Tryz.cf173) .nil .nil) .nil)) (.node none (.node none .nil (.node (some Tryz.cf221) .nil .nil)) (.node (some Tryz.cf125) .nil (.node (some Tryz.cf253) .nil .nil))))))) (.node none (.node none (.node none (.node (some Tryz.cf16) (.node none (.node none (.node (some Tryz.cf128) (.node (some Tryz.cf256) .nil .nil) .nil) .nil) (.node none .nil (.node (some Tryz.cf224) .nil .nil))) (.node (some Tryz.cf48) .nil (.node none (.node (some Tryz.cf176) .nil .nil) (.node (some Tryz.cf240) .nil .nil)))) (.node (some Tryz.cf24) (.node none (.node (some Tryz.cf72) .nil .nil) (.node none (.node (some Tryz.cf168) .nil .nil) .nil)) (.node none .nil (.node (some Tryz.cf120) (.node (some Tryz.cf184) .nil .nil) (.node (some Tryz.cf248) .nil .nil))))) (.node none (.node (some Tryz.cf20) (.node none (.node (some Tryz.cf68) (.node (some Tryz.cf132) (.node (some Tryz.cf260) .nil .nil) .nil) .nil) (.node none .nil (.node (some Tryz.cf228) .nil .nil))) (.node none (.node none (.node (some Tryz.cf148) .nil .nil) .nil) (.node (some Tryz.cf116) (.node (some Tryz.cf180) .nil .nil) (.node (some Tryz.cf244) .nil .nil)))) (.node none (.node none (.node none .nil (.node (some Tryz.cf204) .nil .nil)) (.node none (.node (some Tryz.cf172) .nil .nil) (.node (some Tryz.cf236) .nil .nil))) (.node none (.node none .nil (.node (some Tryz.cf220) .nil .nil)) (.node none (.node (some Tryz.cf188) .nil .nil) (.node (some Tryz.cf252) .nil .nil)))))) (.node none (.node none (.node (some Tryz.cf18) (.node none (.node none (.node (some Tryz.cf130) .nil .nil) .nil) (.node none .nil (.node (some Tryz.cf226) .nil .nil))) (.node none (.node none .nil (.node (some Tryz.cf210) .nil .nil)) (.node (some Tryz.cf114) (.node (some Tryz.cf178) .nil .nil) .nil))) (.node none (.node none (.node (some Tryz.cf74) .nil (.node (some Tryz.cf202) .nil .nil)) (.node (some Tryz.cf106) .nil .nil)) (.node (some Tryz.cf58) (.node (some Tryz.cf90) (.node (some Tryz.cf154) .nil .nil) .nil) (.node (some Tryz.cf122) (.node (some Tryz.cf186) .nil .nil) (.node (some Tryz.cf250) .nil .nil))))) (.node (some Tryz.cf14) (.node none (.node (some Tryz.cf38) (.node none (.node (some Tryz.cf134) .nil .nil) .nil) (.node none (.node (some Tryz.cf166) .nil .nil) (.node (some Tryz.cf230) .nil .nil))) (.node none (.node (some Tryz.cf86) .nil .nil) (.node none (.node (some Tryz.cf182) .nil .nil) (.node (some Tryz.cf246) .nil .nil)))) (.node none (.node (some Tryz.cf46) (.node (some Tryz.cf78) .nil .nil) (.node none (.node (some Tryz.cf174) .nil .nil) .nil)) (.node (some Tryz.cf62) (.node none .nil (.node (some Tryz.cf222) .nil .nil)) (.node (some Tryz.cf126) (.node (some Tryz.cf190) .nil .nil) .nil)))))))
noncomputable def Tryz.rt : List (Nat × (C × C)) := [(122008, (Tryz.ra122008, Tryz.rb122008)), (129017, (Tryz.ra129017, Tryz.rb129017))]
end Go.Sx
