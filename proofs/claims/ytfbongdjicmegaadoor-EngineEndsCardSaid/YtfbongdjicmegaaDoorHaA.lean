/- HaA -/
import Derived.Test.YtfbongdjicmegaaDoorDrB
import Derived.Test.YtfbongdjicmegaaDoorSxTree
import Derived.Test.YtfbongdjicmegaaDoorSxPres
import Derived.Test.YtfbongdjicmegaaDoorLeA
namespace Go.Sx
open Go.RowKit Go.Proofs
set_option maxRecDepth 100000
noncomputable def hapBody:C:=(ae (ae (al [⟨some 92,false,none,ab (.t 16)⟩,
 ⟨some 93,false,none,ab (.t 14)⟩,
 ⟨some 94,true,none,bF .lss (.t 92) (.t 93)⟩])
 (aO (.t 94) aM (dE 2)))
 (ae (aL 3 (ae (dOps 1 [⟨⟨some 98,false,none,ab (.t 13)⟩,[13],false,0,0,none,[]⟩,
 ⟨⟨some 99,false,none,aa 8 (.t 3)⟩,[3],false,0,0,none,[]⟩,
 ⟨⟨some 100,false,none,bB 2 2 (.t 99) (.t 98)⟩,[99,98],false,0,0,none,[]⟩,
 ⟨⟨some 101,false,none,ac 2 (.t 100)⟩,[100],false,0,0,none,[]⟩,
 ⟨⟨some 102,false,none,ac 2 (.t 7)⟩,[7],false,0,0,none,[]⟩,
 ⟨⟨some 103,false,none,ar (.c (.func (.func 34) [] [])) [(.t 101),(.t 102)]⟩,[101,102],true,0,0,none,[]⟩,
 ⟨⟨some 97,false,none,ab (.t 103)⟩,[103],false,1,1,none,[]⟩,
 ⟨⟨some 104,false,none,ao 0 (.t 97)⟩,[97],false,1,1,none,[]⟩,
 ⟨⟨some 105,false,none,ao 1 (.t 97)⟩,[97],false,1,1,none,[]⟩,
 ⟨⟨some 18,true,none,ay 78 [.nilslice,(.int .i64 (.lit 0))]⟩,[],false,0,2,(some (gY [.nilslice,(.int .i64 (.lit 0))],.ptr,0)),[]⟩,
 ⟨⟨some 17,true,none,ab (.t 104)⟩,[104],false,1,1,none,[]⟩,
 ⟨⟨none,false,none,aj 2 (.t 18) (.t 105)⟩,[18,105],true,1,0,none,[0]⟩])
 (ae (dOps 1 [⟨⟨some 107,false,none,ab (.t 13)⟩,[13],false,0,0,none,[]⟩,
 ⟨⟨some 108,false,none,aa 12 (.t 3)⟩,[3],false,0,0,none,[]⟩,
 ⟨⟨some 109,false,none,bB 2 2 (.t 108) (.t 107)⟩,[108,107],false,0,0,none,[]⟩,
 ⟨⟨some 110,false,none,ac 2 (.t 109)⟩,[109],false,0,0,none,[]⟩,
 ⟨⟨some 111,false,none,ac 2 (.t 18)⟩,[18],false,0,0,none,[]⟩,
 ⟨⟨some 112,false,none,ar (.c (.func (.func 34) [] [])) [(.t 110),(.t 111)]⟩,[110,111],true,0,0,none,[]⟩,
 ⟨⟨some 106,false,none,ab (.t 112)⟩,[112],false,1,1,none,[]⟩,
 ⟨⟨some 113,false,none,ao 0 (.t 106)⟩,[106],false,1,1,none,[]⟩,
 ⟨⟨some 114,false,none,ao 1 (.t 106)⟩,[106],false,1,1,none,[]⟩,
 ⟨⟨some 20,true,none,ay 78 [.nilslice,(.int .i64 (.lit 0))]⟩,[],false,0,2,(some (gY [.nilslice,(.int .i64 (.lit 0))],.ptr,0)),[]⟩,
 ⟨⟨some 19,true,none,ab (.t 113)⟩,[113],false,1,1,none,[]⟩,
 ⟨⟨none,false,none,aj 2 (.t 20) (.t 114)⟩,[20,114],true,1,0,none,[0]⟩])
 (ae (al [⟨some 115,false,none,ac 2 (.t 20)⟩,
 ⟨none,false,none,aj 2 (.t 7) (.t 115)⟩])
 (ae (ae (al [⟨some 116,false,none,ab (.t 17)⟩,
 ⟨some 117,false,none,ab (.t 8)⟩,
 ⟨some 118,false,none,bF .gtr (.t 116) (.t 117)⟩,
 ⟨some 119,false,none,ab (.t 118)⟩,
 ⟨some 120,false,some (119,false),ab (.t 19)⟩,
 ⟨some 121,false,some (119,false),ab (.t 9)⟩,
 ⟨some 122,false,some (119,false),bF .gtr (.t 120) (.t 121)⟩,
 ⟨some 123,true,none,aR (.t 119) (.c (.bool (.lit true))) (.t 122)⟩])
 (aO (.t 123) (ae (al [⟨some 124,false,none,aa 2 (.t 10)⟩,
 ⟨some 125,false,none,au (.t 124)⟩,
 ⟨some 126,false,none,ab (.t 11)⟩,
 ⟨some 127,false,none,iMin [(.t 125),(.t 126)]⟩,
 ⟨some 128,false,none,aa 2 (.t 10)⟩,
 ⟨none,false,none,aj 1 (.t 128) (.t 127)⟩])
 (ae (al [⟨some 129,false,none,ac 3 (.t 10)⟩,
 ⟨none,false,none,aj 3 (.t 6) (.t 129)⟩])
 bg)) aM))
 (ae (al [⟨some 130,false,none,ab (.t 8)⟩,
 ⟨some 131,false,none,ab (.t 17)⟩,
 ⟨some 132,false,none,aF .sub (.t 130) (.t 131)⟩,
 ⟨some 133,false,none,ab (.t 9)⟩,
 ⟨some 134,false,none,ab (.t 19)⟩,
 ⟨some 135,false,none,aF .sub (.t 133) (.t 134)⟩,
 ⟨some 8,true,none,ab (.t 132)⟩,
 ⟨some 9,true,none,ab (.t 135)⟩])
 (ae (al [⟨some 136,false,none,aa 16 (.t 3)⟩,
 ⟨some 137,false,none,ac 2 (.t 136)⟩,
 ⟨some 21,true,none,ay 23 [(.int .i64 (.lit 0)),(.int .i64 (.lit 0))]⟩,
 ⟨none,false,none,aj 2 (.t 21) (.t 137)⟩])
 (ae (ae (al [⟨some 138,false,none,ab (.t 9)⟩,
 ⟨some 139,false,none,aa 20 (.t 3)⟩,
 ⟨some 140,false,none,au (.t 139)⟩,
 ⟨some 141,true,none,bF .lss (.t 138) (.t 140)⟩])
 (aO (.t 141) (al [⟨some 142,false,none,aa 18 (.t 3)⟩,
 ⟨some 143,false,none,ac 2 (.t 142)⟩,
 ⟨none,false,none,aj 2 (.t 21) (.t 143)⟩]) aM))
 (ae (al [⟨some 145,false,none,ac 2 (.t 21)⟩,
 ⟨some 146,false,none,ac 2 (.t 7)⟩,
 ⟨some 147,false,none,ar (.c (.func (.func 34) [] [])) [(.t 145),(.t 146)]⟩,
 ⟨some 144,false,none,ab (.t 147)⟩,
 ⟨some 148,false,none,ao 0 (.t 144)⟩,
 ⟨some 149,false,none,ao 1 (.t 144)⟩,
 ⟨some 23,true,none,ay 78 [.nilslice,(.int .i64 (.lit 0))]⟩,
 ⟨some 22,true,none,ab (.t 148)⟩,
 ⟨none,false,none,aj 2 (.t 23) (.t 149)⟩])
 (ae (al [⟨some 150,false,none,ac 2 (.t 23)⟩,
 ⟨none,false,none,aj 2 (.t 7) (.t 150)⟩])
 (ae (al [⟨some 151,false,none,aa 2 (.t 12)⟩,
 ⟨some 152,false,none,au (.t 151)⟩,
 ⟨some 153,false,none,ab (.t 152)⟩,
 ⟨some 154,false,some (153,true),ab (.t 22)⟩,
 ⟨some 155,false,some (153,true),aa 21 (.t 3)⟩,
 ⟨some 156,false,some (153,true),au (.t 155)⟩,
 ⟨some 157,false,some (153,true),bF .lss (.t 154) (.t 156)⟩,
 ⟨some 158,true,none,aR (.t 153) (.t 157) (.c (.bool (.lit false)))⟩])
 (aO (.t 158) (al [⟨some 159,false,none,aa 2 (.t 10)⟩,
 ⟨some 160,false,none,au (.t 159)⟩,
 ⟨some 161,false,none,ab (.t 11)⟩,
 ⟨some 162,false,none,iMin [(.t 160),(.t 161)]⟩,
 ⟨some 163,false,none,aa 2 (.t 10)⟩,
 ⟨none,false,none,aj 1 (.t 163) (.t 162)⟩]) aM))))))))))))
 (al [⟨some 95,false,none,ab (.t 16)⟩,
 ⟨some 96,false,none,aF .add (.t 95) (.c (.int .i64 (.lit 1)))⟩,
 ⟨some 16,true,none,ab (.t 96)⟩])))
noncomputable def hapCode (lc:C):C:=(ae (al [⟨some 3,true,none,cT 27 (.t 0)⟩,
 ⟨some 6,true,none,ay 45 [.nilslice,.nilslice,(.int .i64 (.lit 0))]⟩])
 (ae (al [⟨some 24,false,none,ab (.t 2)⟩,
 ⟨some 25,false,none,aK [.nilslice,(.int .i64 (.lit 0))] [(0,1,(.t 24)),(1,1,(.c (.int .i64 (.lit 0))))]⟩,
 ⟨some 7,true,none,ay 78 [.nilslice,(.int .i64 (.lit 0))]⟩,
 ⟨none,false,none,aj 2 (.t 7) (.t 25)⟩])
 (ae (al [⟨some 27,false,none,aa 0 (.t 3)⟩,
 ⟨some 28,false,none,ac 2 (.t 27)⟩,
 ⟨some 29,false,none,ac 2 (.t 7)⟩,
 ⟨some 30,false,none,ar (.c (.func (.func 34) [] [])) [(.t 28),(.t 29)]⟩,
 ⟨some 26,false,none,ab (.t 30)⟩,
 ⟨some 31,false,none,ao 0 (.t 26)⟩,
 ⟨some 32,false,none,ao 1 (.t 26)⟩,
 ⟨some 8,true,none,ab (.t 31)⟩,
 ⟨none,false,none,aj 2 (.t 7) (.t 32)⟩])
 (ae (al [⟨some 34,false,none,aa 2 (.t 3)⟩,
 ⟨some 35,false,none,ac 2 (.t 34)⟩,
 ⟨some 36,false,none,ac 2 (.t 7)⟩,
 ⟨some 37,false,none,ar (.c (.func (.func 34) [] [])) [(.t 35),(.t 36)]⟩,
 ⟨some 33,false,none,ab (.t 37)⟩,
 ⟨some 38,false,none,ao 0 (.t 33)⟩,
 ⟨some 39,false,none,ao 1 (.t 33)⟩,
 ⟨some 9,true,none,ab (.t 38)⟩,
 ⟨none,false,none,aj 2 (.t 7) (.t 39)⟩])
 (ae (al [⟨some 40,false,none,aa 22 (.t 3)⟩,
 ⟨some 41,false,none,au (.t 40)⟩,
 ⟨some 42,false,none,cO (.t 41)⟩,
 ⟨some 43,false,none,aK [.nilslice,.nilslice,(.int .i64 (.lit 0))] [(0,1,(.c .nilslice)),(1,1,(.c .nilslice)),(2,1,(.t 42))]⟩,
 ⟨some 10,true,none,ay 45 [.nilslice,.nilslice,(.int .i64 (.lit 0))]⟩,
 ⟨none,false,none,aj 3 (.t 10) (.t 43)⟩])
 (ae (ae (al [⟨some 11,true,none,ab (.c (.int .i64 (.lit 0)))⟩])
 (aL 0 (eP (ae (ae (al [⟨some 44,false,none,ab (.t 11)⟩,
 ⟨some 45,false,none,aa 22 (.t 3)⟩,
 ⟨some 46,false,none,au (.t 45)⟩,
 ⟨some 47,false,none,cO (.t 46)⟩,
 ⟨some 48,true,none,bF .lss (.t 44) (.t 47)⟩])
 (aO (.t 48) aM (dE 0)))
 (ae (aL 1 (ae (al [⟨some 51,false,none,aa 22 (.t 3)⟩,
 ⟨some 52,false,none,au (.t 51)⟩,
 ⟨some 53,false,none,ab (.t 11)⟩,
 ⟨some 54,false,none,bw 4 (.t 52) (.t 53)⟩,
 ⟨some 55,false,none,ac 4 (.t 54)⟩,
 ⟨some 12,true,none,ay 33 [(.int .i64 (.lit 0)),(.int .i64 (.lit 0)),(.bool (.lit false)),(.int .i64 (.lit 0))]⟩,
 ⟨none,false,none,aj 4 (.t 12) (.t 55)⟩])
 (ae (dOps 0 [⟨⟨some 56,false,none,aa 4 (.t 3)⟩,[3],false,0,0,none,[]⟩,
 ⟨⟨some 57,false,none,au (.t 56)⟩,[56],false,0,0,none,[]⟩,
 ⟨⟨some 58,false,none,ab (.t 8)⟩,[8],false,0,0,none,[]⟩,
 ⟨⟨some 59,false,none,ab (.t 1)⟩,[1],false,0,0,none,[]⟩,
 ⟨⟨some 60,false,none,ab (.t 11)⟩,[11],false,0,0,none,[]⟩,
 ⟨⟨some 61,false,none,bw 2 (.t 59) (.t 60)⟩,[59,60],false,0,0,none,[]⟩,
 ⟨⟨some 62,false,none,aa 0 (.t 61)⟩,[61],false,0,0,none,[]⟩,
 ⟨⟨some 63,false,none,au (.t 62)⟩,[62],false,0,0,none,[]⟩,
 ⟨⟨some 64,false,none,aa 6 (.t 3)⟩,[3],false,0,0,none,[]⟩,
 ⟨⟨some 65,false,none,au (.t 64)⟩,[64],false,0,0,none,[]⟩,
 ⟨⟨some 66,false,none,aF .mul (.t 63) (.t 65)⟩,[63,65],false,0,0,none,[]⟩,
 ⟨⟨some 67,false,none,aF .add (.t 58) (.t 66)⟩,[58,66],false,0,0,none,[]⟩,
 ⟨⟨some 68,false,none,iMin [(.t 57),(.t 67)]⟩,[57,67],false,0,0,none,[]⟩,
 ⟨⟨some 69,false,none,aa 5 (.t 3)⟩,[3],false,0,0,none,[]⟩,
 ⟨⟨some 70,false,none,au (.t 69)⟩,[69],false,0,0,none,[]⟩,
 ⟨⟨some 71,false,none,ab (.t 9)⟩,[9],false,0,0,none,[]⟩,
 ⟨⟨some 72,false,none,ab (.t 1)⟩,[1],false,0,0,none,[]⟩,
 ⟨⟨some 73,false,none,ab (.t 11)⟩,[11],false,0,0,none,[]⟩,
 ⟨⟨some 74,false,none,bw 2 (.t 72) (.t 73)⟩,[72,73],false,0,0,none,[]⟩,
 ⟨⟨some 75,false,none,aa 1 (.t 74)⟩,[74],false,0,0,none,[]⟩,
 ⟨⟨some 76,false,none,au (.t 75)⟩,[75],false,0,0,none,[]⟩,
 ⟨⟨some 77,false,none,aa 7 (.t 3)⟩,[3],false,0,0,none,[]⟩,
 ⟨⟨some 78,false,none,au (.t 77)⟩,[77],false,0,0,none,[]⟩,
 ⟨⟨some 79,false,none,aF .mul (.t 76) (.t 78)⟩,[76,78],false,0,0,none,[]⟩,
 ⟨⟨some 80,false,none,aF .add (.t 71) (.t 79)⟩,[71,79],false,0,0,none,[]⟩,
 ⟨⟨some 81,false,none,iMin [(.t 70),(.t 80)]⟩,[70,80],false,0,0,none,[]⟩,
 ⟨⟨some 8,true,none,ab (.t 68)⟩,[68],false,0,0,none,[]⟩,
 ⟨⟨some 9,true,none,ab (.t 81)⟩,[81],false,0,0,none,[]⟩])
 (ae (al [⟨some 13,true,none,ab (.c (.int .i64 (.lit 0)))⟩])
 (ae (ae (al [⟨some 82,false,none,aa 2 (.t 12)⟩,
 ⟨some 83,true,none,au (.t 82)⟩])
 (aO (.t 83) (al [⟨some 13,true,none,ab (.c (.int .i64 (.lit 1)))⟩]) aM))
 (ae (al [⟨some 85,false,none,aa 0 (.t 12)⟩,
 ⟨some 86,false,none,ac 2 (.t 85)⟩,
 ⟨some 87,false,none,ac 2 (.t 7)⟩,
 ⟨some 88,false,none,ar (.c (.func (.func 34) [] [])) [(.t 86),(.t 87)]⟩,
 ⟨some 84,false,none,ab (.t 88)⟩,
 ⟨some 89,false,none,ao 0 (.t 84)⟩,
 ⟨some 90,false,none,ao 1 (.t 84)⟩,
 ⟨some 15,true,none,ay 78 [.nilslice,(.int .i64 (.lit 0))]⟩,
 ⟨some 14,true,none,ab (.t 89)⟩,
 ⟨none,false,none,aj 2 (.t 15) (.t 90)⟩])
 (ae (al [⟨some 91,false,none,ac 2 (.t 15)⟩,
 ⟨none,false,none,aj 2 (.t 7) (.t 91)⟩])
 (ae (ae (al [⟨some 16,true,none,ab (.c (.int .i64 (.lit 0)))⟩])
 (aL 2 lc))
 (dOps 2 [⟨⟨some 164,false,none,aa 0 (.t 10)⟩,[10],false,0,0,none,[]⟩,
 ⟨⟨some 165,false,none,au (.t 164)⟩,[164],false,0,0,none,[]⟩,
 ⟨⟨some 166,false,none,ab (.t 8)⟩,[8],false,0,0,none,[]⟩,
 ⟨⟨some 167,false,none,cN 3 [(.int .i64 (.lit 0))] 1 [(0,1,(.t 166))]⟩,[166],false,0,4,(some (flSlice [(.int .i64 (.lit 0))] 1 [(0,1,(.t 166))],.sl 1,1)),[]⟩,
 ⟨⟨some 168,false,none,gj 3 1 8 (.t 165) (.t 167)⟩,[165,167],true,0,0,none,[1]⟩,
 ⟨⟨some 169,false,none,aa 1 (.t 10)⟩,[10],false,0,1,none,[]⟩,
 ⟨⟨some 170,false,none,au (.t 169)⟩,[169],false,0,1,none,[]⟩,
 ⟨⟨some 171,false,none,ab (.t 9)⟩,[9],false,0,1,none,[]⟩,
 ⟨⟨some 172,false,none,cN 3 [(.int .i64 (.lit 0))] 1 [(0,1,(.t 171))]⟩,[171],false,0,4,(some (flSlice [(.int .i64 (.lit 0))] 1 [(0,1,(.t 171))],.sl 1,0)),[]⟩,
 ⟨⟨some 173,false,none,gj 3 1 8 (.t 170) (.t 172)⟩,[170,172],true,1,0,none,[0,1]⟩,
 ⟨⟨some 174,false,none,aa 0 (.t 10)⟩,[10],false,1,2,none,[]⟩,
 ⟨⟨none,false,none,aj 1 (.t 174) (.t 168)⟩,[174,168],true,2,0,none,[0,1]⟩,
 ⟨⟨some 175,false,none,aa 1 (.t 10)⟩,[10],false,3,3,none,[]⟩,
 ⟨⟨none,false,none,aj 1 (.t 175) (.t 173)⟩,[175,173],true,3,0,none,[0,1]⟩])))))))))
 (al [⟨some 49,false,none,ab (.t 11)⟩,
 ⟨some 50,false,none,aF .add (.t 49) (.c (.int .i64 (.lit 1)))⟩,
 ⟨some 11,true,none,ab (.t 50)⟩]))))))
 (ae (al [⟨some 176,false,none,ac 3 (.t 10)⟩,
 ⟨none,false,none,aj 3 (.t 6) (.t 176)⟩])
 bg)))))))
noncomputable def btA (nl:Bool):AV:=cond nl .nilslice (.sliceU 96)
noncomputable def drawGo (args:List AV) (h:Heap):Option (T (AV × Heap)):=match args with
  | [.agg [.int _ lo,.int _ hi],.agg [_,.int _ a]]=>cond (and (dg args (drawA lo hi a)) (Nat.ble 2000 h.next)) (some (.ret (drawR lo hi a,h))) none
  | _=>none
theorem drawGo_ok {ok:Rho→(Nat→Obj→Prop)→Prop} (hok:∀ ρ m,ok ρ m→gB ρ m∧OkDr ρ) {args:List AV} {h:Heap} {t:T (AV × Heap)} (k:drawGo args h=some t):CallOk (aQ ok) 34 args h t:=by
  unfold drawGo at k
  split at k
  · obtain ⟨hk,k1⟩:=ak k
    simp only [Bool.and_eq_true] at hk
    rw [aZ _ _ hk.1]
    obtain rfl:=Option.some.inj k1
    exact (drawn_any hok).moved (a:=1001) (c:=1001) (by omega) (by omega) rfl (fun g hg=>(List.not_mem_nil hg).elim) (fun g hg=>(List.not_mem_nil hg).elim) fun E=>mv_self rfl
  · cases k
def OkDnP (_:Rho) (_:Nat→Obj→Prop):Prop:=True
noncomputable def tbDn:hI:=⟨Sx.Tryd.ft.get,aA Sx.Tryd.rt,2000,orcTn⟩
noncomputable def drawnA (lo hi at_:IE):List AV:=[.agg [.int .i64 lo,.int .i64 hi],.agg [.nilslice,.int .i64 at_]]
noncomputable def drawnR (lo hi at_:IE):AV:=.tup [.int .i64 (.app 9600 at_ lo hi),.agg [.nilslice,.int .i64 (.bin .add .i64 at_ (.lit 1))]]
noncomputable def runDn:T (AV × Heap):=(b7 tbDn 60 false 34 (drawnA (.var 500) (.var 501) (.var 502)) (ah 2000 [])).bind fun r=>bV 2000 [] (ah 2000 []) [] r
noncomputable def leafDn (e:IE):T AV:=.ret (.tup [.tup [.int .i64 e,.agg [.nilslice,.int .i64 (.bin .add .i64 (.var 502) (.lit 1))]],.bool (.lit true)])
noncomputable def drawE0:IE:=.bin .add .i64 (.var 500) (.app 6 (.lit 0) manyD (.lit 0))
noncomputable def drawnT:T AV:=.br (.cmp .gtr (.var 500) (.var 501)) (leafDn (.var 500)) (.br (.cmp .leq manyD big) (leafDn drawE0) (.fail 99))
theorem ckDn:eqTF (runDn.bind fun r=>.ret (encDr r)) drawnT=true:=by kernel_rfl
noncomputable def drawN0 (lo hi:Int):Int:=if hi < lo then lo else IntKind.i64.wrap (lo + bO 0 (IntKind.i64.wrap (IntKind.i64.wrap (hi - lo) + 1)))
def OkDn (ρ:Rho):Prop:=∀ a lo hi:Int,FI ρ.fi 9600 a lo hi=drawN0 lo hi
theorem drawn_nil {ok:Rho→(Nat→Obj→Prop)→Prop} {lo hi at_:IE} (hok:∀ ρ m,ok ρ m→OkDn ρ):CallOk (aQ ok) 34 (drawnA lo hi at_) (ah 2000 []) (.ret (drawnR lo hi at_,ah 2000 [])):=by
  have B:b8 (aQ OkDnP) Sx.Tryd.tt.get tbDn:=Tryd.tab orcTn (fun f args h t e=>by
    unfold orcTn at e
    obtain ⟨h8,e⟩:=ak e
    have:=aq.1 h8; subst this
    exact turn_orc (p:=aQ OkDnP) rfl e) 2000
  have base:=bL B 60 34 (drawnA (.var 500) (.var 501) (.var 502)) (ah 2000 [])
  have fr:CallOk (aQ OkDnP) 34 (drawnA (.var 500) (.var 501) (.var 502)) (ah 2000 []) runDn:=base.frame (n:=2000) (l:=[]) (by omega) rfl (by kernel_rfl) (fun g hg=>(List.not_mem_nil hg).elim) (by rw [aw]; exact Nat.le_refl _) (fun _=>[])
  refine CallOk.read (p0:=aQ OkDnP) (p:=aQ ok) rfl fr fun ρ b hk Q hQ=>?_
  obtain ⟨m,hm,hmh⟩:=hk
  let ρ':Rho:=⟨fun j=>if j=500 then lo.den ρ else if j=501 then hi.den ρ else if j=502 then at_.den ρ else ρ.iv j,ρ.bv,ρ.fi,ρ.fb,ρ.ov⟩
  have i0:ρ'.iv 500=lo.den ρ:=rfl
  have i1:ρ'.iv 501=hi.den ρ:=rfl
  have i2:ρ'.iv 502=at_.den ρ:=rfl
  have hd:FI ρ.fi 9600 (at_.den ρ) (lo.den ρ) (hi.den ρ)=drawN0 (lo.den ρ) (hi.den ρ):=hok ρ m hm _ _ _
  refine ⟨ρ',⟨m,trivial,hmh⟩,SameL.cons (SameV.agg (SameL.cons (SameV.int i0.symm) (SameL.cons (SameV.int i1.symm) SameL.nil))) (SameL.cons (SameV.agg (SameL.cons (fun _ _ _ _ _ _=>rfl) (SameL.cons (SameV.int i2.symm) SameL.nil))) SameL.nil),⟨rfl,fun b o hg=>(List.not_mem_nil (am _ _ _ _ hg)).elim⟩,T.holds_enc (ea _ _ ckDn) ?_⟩
  have leaf:∀ e:IE,e.den ρ'=drawN0 (lo.den ρ) (hi.den ρ)→(leafDn e).Holds ρ' fun a=>∀ r,encDr r=a→∃ r',Q r'∧SameV ρ' r.1 ρ r'.1∧SameH (aQ OkDnP) (aQ ok) ρ' r.2 ρ r'.2:=fun e he=>by
    intro r hr
    simp only [encDr,AV.tup.injEq,List.cons.injEq,and_true,AV.bool.injEq,BE.lit.injEq] at hr
    obtain ⟨hr1,hr2⟩:=hr
    refine ⟨_,hQ,?_,(aq.1 hr2).trans (aw 2000 _).symm,fun b o hg=>?_⟩
    · rw [hr1]
      have e2:(IE.bin .add .i64 (.var 502) (.lit 1)).den ρ'=(IE.bin .add .i64 at_ (.lit 1)).den ρ:=by
        show IntKind.i64.wrap (ρ'.iv 502 + 1)=IntKind.i64.wrap (at_.den ρ + 1)
        rw [i2]
      have hl:SameL ρ' [.int .i64 e,.agg [.nilslice,.int .i64 (.bin .add .i64 (.var 502) (.lit 1))]] ρ [.int .i64 (.app 9600 at_ lo hi),.agg [.nilslice,.int .i64 (.bin .add .i64 at_ (.lit 1))]] :=
        SameL.cons (SameV.int (he.trans hd.symm)) (SameL.cons (SameV.agg (SameL.cons (fun _ _ _ _ _ _=>rfl) (SameL.cons (SameV.int e2) SameL.nil))) SameL.nil)
      exact fun σ κ n m rc rc'=>by simp only [drawnR,af,hl σ κ n m rc rc']
    · have:=am _ _ _ _ hg
      exact (List.not_mem_nil this).elim
  unfold drawnT
  simp only [T.Holds]
  split
  · rename_i h
    refine leaf _ ?_
    have h:hi.den ρ < lo.den ρ:=by simpa [BE.den,aS,IE.den,i0,i1] using h
    unfold drawN0; rw [if_pos h]; rfl
  · rename_i h
    have h:¬ hi.den ρ < lo.den ρ:=by simpa [BE.den,aS,IE.den,i0,i1] using h
    rw [if_pos (by rw [BE.t_leq]; exact wrap_big _)]
    refine leaf _ ?_
    unfold drawN0; rw [if_neg h]; rfl
noncomputable def drawnGo (args:List AV) (h:Heap):Option (T (AV × Heap)):=match args with
  | [.agg [.int _ lo,.int _ hi],.agg [_,.int _ a]]=>cond (and (dg args (drawnA lo hi a)) (Nat.ble 2000 h.next)) (some (.ret (drawnR lo hi a,h))) none
  | _=>none
theorem drawnGo_ok {ok:Rho→(Nat→Obj→Prop)→Prop} (hok:∀ ρ m,ok ρ m→OkDn ρ) {args:List AV} {h:Heap} {t:T (AV × Heap)} (k:drawnGo args h=some t):CallOk (aQ ok) 34 args h t:=by
  unfold drawnGo at k
  split at k
  · obtain ⟨hk,k1⟩:=ak k
    simp only [Bool.and_eq_true] at hk
    rw [aZ _ _ hk.1]
    obtain rfl:=Option.some.inj k1
    exact (drawn_nil hok).moved (a:=1001) (c:=1001) (by omega) (by omega) rfl (fun g hg=>(List.not_mem_nil hg).elim) (fun g hg=>(List.not_mem_nil hg).elim) fun E=>mv_self rfl
  · cases k
noncomputable def orcMn (nl:Bool) (f:FuncId) (args:List AV) (h:Heap):Option (T (AV × Heap)):=cond (Nat.beq f 34) (cond nl (drawnGo args h) (drawGo args h)) none
noncomputable def tbMn (nl:Bool):hI:=⟨Sx.Tryd.ft.get,aA Sx.Tryd.rt,2000,orcMn nl⟩
noncomputable def cxMn (nl:Bool):Cx:=⟨b7 (tbMn nl) 60 false,b7 (tbMn nl) 60 true,2000⟩
def okMn (nl:Bool) (ρ:Rho) (m:Nat→Obj→Prop):Prop:=if nl=true then OkDn ρ else gB ρ m∧OkDr ρ
theorem tabsMn {ok:Rho→(Nat→Obj→Prop)→Prop} {nl:Bool} (hok:∀ ρ m,ok ρ m→okMn nl ρ m):b8 (aQ ok) Sx.Tryd.tt.get (tbMn nl):=Tryd.tab (orcMn nl) (fun f args h t e=>by
  unfold orcMn at e
  obtain ⟨h34,e⟩:=ak e
  have:=aq.1 h34; subst this
  cases nl with
  | true=>exact drawnGo_ok (fun ρ m k=>by have:=hok ρ m k; unfold okMn at this; rwa [if_pos rfl] at this) e
  | false=>exact drawGo_ok (fun ρ m k=>by have:=hok ρ m k; unfold okMn at this; rwa [if_neg (by simp)] at this) e) 2000
theorem cxMn_ok {ok:Rho→(Nat→Obj→Prop)→Prop} {nl:Bool} (hok:∀ ρ m,ok ρ m→okMn nl ρ m):CxOk (aQ ok) (cxMn nl):=evalN_ok (tabsMn hok) 60
noncomputable def nmE (f k:Nat):IE:=.app f (lt k) (lt 0) (lt 0)
noncomputable def litE (k kd:Nat):BE:=cond (Nat.beq kd 1) (.var (32 + 4 * k)) (.not (.var (32 + 4 * k)))
noncomputable def bkM:List AV:=cC (viUp 22 0) [.opq 90]
noncomputable def lsM (b k:Nat):AV:=cond (Nat.beq k 0) .nilslice (.sliceX b 1 0 k)
noncomputable def outM (k:Nat) (f:IE):List AV:=[lsM 2005 k,lsM 2006 k,.int .i64 f]
noncomputable def xM (k:Nat):List AV:=[vi 925,vi 926,.bool (.var (32 + 4 * k)),vi 927]
noncomputable def vsMn (nl : Bool) (k : Nat) (st : Bool) : List VS := [⟨2000, none, bkM, bkM, bkM, none⟩, ⟨2001, some (45, false), [.nilslice, .nilslice, vi 915], [.nilslice, .nilslice, vi 915], cond st (outM k (nmE 9709 k)) [.nilslice, .nilslice, vi 915], none⟩,
   ⟨2002,some (78,false),[btA nl,vi 912],[btA nl,vi 912],[cond nl .nilslice (.opq 96),.int .i64 (nmE 9708 k)],none⟩,
   ⟨2003,some (45,false),outM k (.var 913),outM k (.var 913),outM k (nmE 9709 k),none⟩,
   ⟨2004,none,xM k,xM k,xM k,none⟩]
noncomputable def slMn (k kd:Nat) (m c w:IE):List (Nat × AV):=[(1,.opq 93),(3,.ptr 2000 0),(6,.ptr 2001 0),(7,.ptr 2002 0),(8,.int .i64 c),(9,.int .i64 w),(10,.ptr 2003 0),(11,li (Int.ofNat k)),(12,.ptr 2004 0),(13,li (Int.ofNat kd)),(14,vi 914),(16,.int .i64 m)]
noncomputable def eqN (v f k:Nat):BE:=.cmp .eql (.var v) (nmE f k)
noncomputable def eU (nl:Bool) (k kd:Nat) (st:Bool):LSpec where
  sl0:=slMn k kd (.lit 0) (.var 910) (.var 911)
  sl:=slMn k kd (.var 918) (.var 910) (.var 911)
  vs:=vsMn nl k st
  nv:=2007
  dom:=[eqN 910 9701 k,eqN 911 9702 k,eqN 912 9703 k,eqN 913 9704 k,eqN 914 9705 k,litE k kd]
  out:=cond st (.ret (.ret,[(6,.ptr 2001 0)])) (.ret (.exit 2,[(1,.opq 93),(3,.ptr 2000 0),(6,.ptr 2001 0),(7,.ptr 2002 0),(8,.int .i64 (nmE 9706 k)),(9,.int .i64 (nmE 9707 k)),(10,.ptr 2003 0),(11,li (Int.ofNat k))]))
noncomputable def idsM:List Nat:=[1,3,6,7,8,9,10,11,12,13,14,16]
noncomputable def blkM (cs:List AV) (el:Nat) (own:Bool):AV:=.tup [.tup cs,li (Int.ofNat el),.bool (.lit own),.bool (.lit false)]
noncomputable def roundMn (nl:Bool) (k kd:Nat) (st:Bool):T AV:=extT idsM [2000,2001,2002,2003,2004] (hapBody (cxMn nl) ⟨13,none⟩ (eU nl k kd st).T.st)
noncomputable def addI (e:IE):IE:=.bin .add .i64 e (.lit 1)
noncomputable def slV (k kd:Nat) (m c w:IE):List AV:=lMap (fun g:Nat × AV=>.tup [g.2]) (slMn k kd m c w)
noncomputable def leafM (nl:Bool) (k kd:Nat) (t:Nat) (m c w a f:IE) (rs:List AV):T AV :=
  .ret (.tup (li (Int.ofNat t) :: .nilslice :: cC (slV k kd m c w) [blkM bkM 0 false,blkM rs 45 true,blkM [btA nl,.int .i64 a] 78 true,blkM (outM k f) 45 true,blkM (xM k) 0 false]))
noncomputable def res0:List AV:=[.nilslice,.nilslice,vi 915]
noncomputable def a0:IE:=.var 912
noncomputable def a1:IE:=addI a0
noncomputable def a2:IE:=addI a1
noncomputable def a3:IE:=addI a2
noncomputable def e1M (kd:Nat):IE:=.app 9600 a0 (.var (8 + 2 * kd)) (.var (9 + 2 * kd))
noncomputable def e2M (kd:Nat):IE:=.app 9600 a1 (.var (12 + 2 * kd)) (.var (13 + 2 * kd))
noncomputable def e3M (weak:Bool):IE:=.app 9600 a2 (.var (cond weak 18 16)) (.var (cond weak 19 17))
noncomputable def c1M (kd:Nat):IE:=.bin .sub .i64 (.var 910) (e1M kd)
noncomputable def w1M (kd:Nat):IE:=.bin .sub .i64 (.var 911) (e2M kd)
noncomputable def mnF (k:Nat):IE:=.mn (.var 913) (lt k)
noncomputable def goM (nl:Bool) (k kd:Nat) (f:IE):T AV:=leafM nl k kd 0 (addI (.var 918)) (c1M kd) (w1M kd) a3 f res0
noncomputable def lampM (nl:Bool) (k kd:Nat) (weak:Bool):T AV:=.br (.var (32 + 4 * k)) (.br (.cmp .lss (e3M weak) (.var 21)) (goM nl k kd (mnF k)) (goM nl k kd (.var 913))) (goM nl k kd (.var 913))
noncomputable def stopM (nl:Bool) (k kd:Nat):T AV:=leafM nl k kd 1 (.var 918) (.var 910) (.var 911) a2 (mnF k) (outM k (mnF k))
noncomputable def treeM (nl:Bool) (k kd:Nat):T AV :=
  .br (.cmp .lss (.var 918) (.var 914))
    (.br (.cmp .gtr (e1M kd) (.var 910)) (stopM nl k kd) (.br (.cmp .gtr (e2M kd) (.var 911)) (stopM nl k kd)
      (.br (.cmp .lss (w1M kd) (.var 20)) (lampM nl k kd true) (lampM nl k kd false))))
    (leafM nl k kd 4 (.var 918) (.var 910) (.var 911) a0 (.var 913) res0)
mutual
noncomputable def eqAO:AV→AV→Bool
  | .opq i,b=>(match b with
    | .opq j=>Nat.beq i j
    | _=>false)
  | .tup x,b=>(match b with
    | .tup y=>eqAOs x y
    | _=>false)
  | a,b=>eqAV a b
noncomputable def eqAOs:List AV→List AV→Bool
  | [],[]=>true
  | a :: l,b :: m=>and (eqAO a b) (eqAOs l m)
  | _,_=>false
end
mutual
theorem eqAO_eq:∀ (a b:AV),eqAO a b=true→a=b
  | .opq i,b,h=>by
    cases b <;> simp only [eqAO] at h <;> first | (cases h; done) | skip
    rw [aq.1 h]
  | .tup x,b,h=>by
    cases b <;> simp only [eqAO] at h <;> first | (cases h; done) | skip
    rw [eqAOs_eq _ _ h]
  | .bool _,b,h | .int _ _,b,h | .ptr _ _,b,h | .nilptr,b,h | .slice _ _ _ _,b,h | .sliceX _ _ _ _,b,h | .nilslice,b,h | .map _,b,h | .nilmap,b,h | .func _ _ _,b,h | .yieldF _,b,h | .nilFunc,b,h | .agg _,b,h | .sliceU _,b,h | .sliceV _ _,b,h | .ptrV _ _ _ _ _,b,h | .bad,b,h=>dZ _ _ (by simpa only [eqAO] using h)
theorem eqAOs_eq:∀ (a b:List AV),eqAOs a b=true→a=b
  | [],[],_=>rfl
  | [],_ :: _,h=>by cases h
  | _ :: _,[],h=>by cases h
  | a :: l,b :: m,h=>by
    simp only [eqAOs,Bool.and_eq_true] at h
    rw [eqAO_eq _ _ h.1,eqAOs_eq _ _ h.2]
end
noncomputable def eqTO (t u:T AV):Bool :=
  match t,u with
  | .ret a,.ret b=>eqAO a b
  | .br c x y,.br c' x' y'=>and (eqBE c c') (and (eqTO x x') (eqTO y y'))
  | .fail v,.fail w=>Nat.beq v w
  | _,_=>false
theorem eqTO_eq:∀ (t u:T AV),eqTO t u=true→t=u
  | .ret a,u,h=>by
    cases u <;> simp [eqTO] at h
    rw [eqAO_eq _ _ h]
  | .br c x y,u,h=>by
    cases u <;> simp [eqTO] at h
    rw [dr _ _ h.1,eqTO_eq _ _ h.2.1,eqTO_eq _ _ h.2.2]
  | .fail v,u,h=>by
    cases u <;> simp [eqTO] at h
    rw [h]
noncomputable def ckMn (nl:Bool) (k kd:Nat):Bool:=and (eqTO (roundMn nl k kd true) (treeM nl k kd)) (eqTO (roundMn nl k kd false) (treeM nl k kd))
theorem ckMn_all:bz (fun nl=>bz (fun k=>and (ckMn nl k 0) (ckMn nl k 1)) [0,1,2,3,4]) [true,false]=true:=by kernel_rfl
end Go.Sx
