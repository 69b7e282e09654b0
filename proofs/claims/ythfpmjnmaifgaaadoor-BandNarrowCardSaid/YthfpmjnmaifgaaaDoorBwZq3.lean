/- Part 4 of what the law needs: own work, put together. -/
import Derived.Test.YthfpmjnmaifgaaaDoorProg
import Derived.KernelRfl
import Derived.Test.YthfpmjnmaifgaaaDoorBwZq2
set_option linter.unusedVariables false
set_option linter.unusedSimpArgs false
set_option maxRecDepth 10000
set_option maxHeartbeats 4000000
section
namespace Go.Proofs.YthfpmjnmaifgaaaDoor
set_option maxRecDepth 100000

abbrev oo (d : Nat) (x : AOp) : AOper:=⟨some d,x,none⟩
abbrev on (x : AOp) : AOper:=⟨none,x,none⟩
theorem rg {n0 : Cx} {md : Md} {P : Program} {Q : AEx → List AV → St → Prop} {l : List AOper} {a : List AV} {S : St} (k : Nat) (live : List Nat) (a2 : List AV) (S2 : St) (hx : Q .norm a2 S2) (h : (evH [] 0 k l a S).map (fun p => (p.1, keepB 0 live p.2.1, p.2.2)) = some ([], a2, S2) := by kernel_rfl) (hl : l.drop k = [] := by rfl) : Ex n0 md P (.reg l) a S Q :=
 regH k [] live [] a2 S2 h trivial hl hx
theorem rn {n0 : Cx} {P : Program} {R : List AV → St → Prop} {l : List AOper} {a : List AV} {S : St} (k : Nat) (live : List Nat) (a2 : List AV) (S2 : St) (hx : ExO n0 P (l.drop k) a2 S2 R) (h : (evH [] 0 k l a S).map (fun p => (p.1, keepB 0 live p.2.1, p.2.2)) = some ([], a2, S2) := by kernel_rfl) : ExO n0 P l a S R :=
 runH k [] live [] a2 S2 h trivial hx
theorem bE {α β : Type} {o : Option α} {f : α → Option β} {b : β} (h : o.bind f = some b) : ∃ a,o = some a ∧ f a = some b:=Option.bind_eq_some_iff.1 h
theorem rt {a' : List AV} {S' : St} {res : List ARes} {n : Nat} {c1 : List (List AV)} {r : AV} (v : AV) (h1 : evRes a' S' res = some v:=by kernel_rfl) (h2 : v.names = false:=by kernel_rfl) (h3 : fadeT v = r:=by kernel_rfl) (h4 : S'.bx.take n = c1:=by kernel_rfl) : (AEx.ret = .norm ∨ AEx.ret = .ret) ∧ ∃ v,evRes a' S' res = some v ∧ v.names = false ∧ fadeT v = r ∧ S'.bx.take n = c1:=⟨.inr rfl,v,h1,h2,h3,h4⟩
abbrev i6 (x : Int) : AV:=.int .i64 x
abbrev Z (t : Nat) : AOpd:=.tmp t
theorem sJ {α : Type} {a b : α} (h : some a = some b) : a = b:=Option.some.inj h
def F3 : AFn:=⟨1,134,[.tmp 2],(.seq (.reg [oo 2 (.mov (.con (.bool false)))]) (.seq (.reg [oo 21 (.mov (Z 0)),oo 22 (.call (.con (.fn 4 [] [])) [(Z 21)]),oo 3 (.mov (Z 22))]) (.seq (.reg [oo 23 (.mov (Z 3)),oo 24 (.call (.con (.fn 5 [] [])) [(Z 23)]),oo 4 (.box (.con (.agg [.nils,.nils,.nils,i6 0,i6 0,.nils]))),on (.store 6 (Z 4) (Z 24))]) (.seq (.reg [oo 25 (.mov (Z 3)),oo 26 (.load (some 6) (Z 4)),oo 27 (.call (.con (.fn 6 [] [])) [(Z 25),(Z 26),(.con (i6 4))]),oo 5 (.mov (Z 27))]) (.seq (.reg [oo 28 (.mov (Z 5)),oo 29 (.call (.con (.fn 7 [] [])) [(Z 28)]),oo 6 (.mov (Z 29))]) (.seq (.seq (.reg [oo 7 (.mov (.con (i6 0)))]) (.block 0 (.loop (.seq (.seq (.reg [oo 30 (.mov (Z 7)),oo 31 (.mov (Z 6)),oo 32 (.len false (Z 31)),oo 33 (.bin .lss (Z 30) (Z 32))]) (.cond (Z 33) .skip (.exit 0))) (.seq (.block 1 (.reg [oo 36 (.mov (Z 6)),oo 37 (.mov (Z 7)),oo 38 (.mov (Z 3)),oo 39 (.mov (Z 6)),oo 40 (.mov (Z 7)),oo 41 (.iaddr (Z 39) (Z 40) 6 none),oo 42 (.faddr (Z 41) 2),oo 43 (.load (some 2) (Z 42)),oo 44 (.call (.con (.fn 8 [] [])) [(Z 38),(Z 43)]),oo 45 (.iaddr (Z 36) (Z 37) 6 none),oo 46 (.faddr (Z 45) 2),on (.store 2 (Z 46) (Z 44))])) (.reg [oo 34 (.mov (Z 7)),oo 35 (.bin .add (Z 34) (.con (i6 1))),oo 7 (.mov (Z 35))])))))) (.seq (.seq (.reg [oo 8 (.mov (.con (i6 0)))]) (.block 2 (.loop (.seq (.seq (.reg [oo 47 (.mov (Z 8)),oo 48 (.mov (Z 5)),oo 49 (.len false (Z 48)),oo 50 (.bin .lss (Z 47) (Z 49))]) (.cond (Z 50) .skip (.exit 2))) (.seq (.block 3 (.seq (.reg [oo 9 (.mov (.con (i6 0)))]) (.block 4 (.loop (.seq (.seq (.reg [oo 53 (.mov (Z 9)),oo 54 (.mov (Z 8)),oo 55 (.bin .lss (Z 53) (Z 54))]) (.cond (Z 55) .skip (.exit 4))) (.seq (.block 5 (.seq (.dreg 14 0 [oo 59 (.load (some 6) (Z 4)),oo 60 (.mov (Z 5)),oo 61 (.mov (Z 8)),oo 62 (.iaddr (Z 60) (Z 61) 6 none),oo 63 (.load (some 6) (Z 62)),oo 64 (.mov (Z 5)),oo 65 (.mov (Z 9)),oo 66 (.iaddr (Z 64) (Z 65) 6 none),oo 67 (.load (some 6) (Z 66)),oo 68 (.call (.con (.fn 9 [] [])) [(Z 59),(Z 63),(Z 67)]),oo 58 (.mov (Z 68)),oo 69 (.ext (Z 58) 0),oo 70 (.ext (Z 58) 1),oo 10 (.mov (Z 69)),oo 11 (.mov (Z 70))]) (.seq (.dreg 14 0 [oo 72 (.load (some 6) (Z 4)),oo 73 (.mov (Z 6)),oo 74 (.mov (Z 8)),oo 75 (.iaddr (Z 73) (Z 74) 6 none),oo 76 (.load (some 6) (Z 75)),oo 77 (.mov (Z 6)),oo 78 (.mov (Z 9)),oo 79 (.iaddr (Z 77) (Z 78) 6 none),oo 80 (.load (some 6) (Z 79)),oo 81 (.call (.con (.fn 9 [] [])) [(Z 72),(Z 76),(Z 80)]),oo 71 (.mov (Z 81)),oo 82 (.ext (Z 71) 0),oo 83 (.ext (Z 71) 1),oo 12 (.mov (Z 82)),oo 13 (.mov (Z 83))]) (.seq (.reg [oo 84 (.mov (Z 11)),oo 85 (.bin .neq (Z 84) (.con (i6 0))),oo 86 (.mov (Z 85)),⟨some 87,.mov (Z 13),some (86,false)⟩,⟨some 88,.bin .neq (Z 87) (.con (i6 0)),some (86,false)⟩,oo 89 (.pick (Z 86) (.con (.bool true)) (Z 88)),oo 90 (.mov (Z 89)),⟨some 91,.mov (Z 10),some (90,false)⟩,⟨some 92,.bin .neq (Z 91) (.con (i6 3)),some (90,false)⟩,⟨some 93,.mov (Z 92),some (90,false)⟩,⟨some 94,.mov (Z 10),some (93,true)⟩,⟨some 95,.mov (Z 12),some (93,true)⟩,⟨some 96,.bin .neq (Z 94) (Z 95),some (93,true)⟩,⟨some 97,.pick (Z 93) (Z 96) (.con (.bool false)),some (90,false)⟩,oo 98 (.pick (Z 90) (.con (.bool true)) (Z 97))]) (.cond (Z 98) (.seq (.reg [oo 2 (.mov (.con (.bool false)))]) .ret) .skip))))) (.reg [oo 56 (.mov (Z 9)),oo 57 (.bin .add (Z 56) (.con (i6 1))),oo 9 (.mov (Z 57))]))))))) (.reg [oo 51 (.mov (Z 8)),oo 52 (.bin .add (Z 51) (.con (i6 1))),oo 8 (.mov (Z 52))])))))) (.seq (.reg [oo 99 (.mov (Z 3)),oo 100 (.faddr (Z 4) 5),oo 101 (.load none (Z 100)),oo 102 (.len false (Z 101)),oo 103 (.call (.con (.fn 10 [] [])) [(Z 99),(Z 102)]),oo 14 (.mov (Z 103))]) (.seq (.reg [oo 105 (.load (some 6) (Z 4)),oo 106 (.mov (Z 5)),oo 107 (.mov (Z 14)),oo 108 (.call (.con (.fn 11 [] [])) [(Z 105),(Z 106),(Z 107)]),oo 104 (.mov (Z 108)),oo 109 (.ext (Z 104) 0),oo 110 (.ext (Z 104) 1),oo 111 (.ext (Z 104) 2),oo 15 (.mov (Z 109)),oo 16 (.mov (Z 110)),oo 17 (.mov (Z 111))]) (.seq (.reg [oo 113 (.load (some 6) (Z 4)),oo 114 (.mov (Z 6)),oo 115 (.mov (Z 14)),oo 116 (.call (.con (.fn 11 [] [])) [(Z 113),(Z 114),(Z 115)]),oo 112 (.mov (Z 116)),oo 117 (.ext (Z 112) 0),oo 118 (.ext (Z 112) 1),oo 119 (.ext (Z 112) 2),oo 18 (.mov (Z 117)),oo 19 (.mov (Z 118)),oo 20 (.mov (Z 119))]) (.seq (.reg [oo 120 (.mov (Z 17)),oo 121 (.bin .eql (Z 120) (.con (i6 0))),oo 122 (.mov (Z 121)),⟨some 123,.mov (Z 20),some (122,true)⟩,⟨some 124,.bin .eql (Z 123) (.con (i6 0)),some (122,true)⟩,oo 125 (.pick (Z 122) (Z 124) (.con (.bool false))),oo 126 (.mov (Z 125)),⟨some 127,.mov (Z 19),some (126,true)⟩,⟨some 128,.mov (Z 16),some (126,true)⟩,⟨some 129,.bin .geq (Z 127) (Z 128),some (126,true)⟩,oo 130 (.pick (Z 126) (Z 129) (.con (.bool false))),oo 131 (.mov (Z 130)),⟨some 132,.call (.con (.fn 12 [] [])) [],some (131,true)⟩,oo 133 (.pick (Z 131) (Z 132) (.con (.bool false))),oo 2 (.mov (Z 133))]) .ret)))))))))))⟩
theorem comp3 : compFn Tryd.prog 3 = some F3:=by kernel_rfl
def F4 : AFn:=⟨1,29,[.tmp 2],(.seq (.reg [oo 2 (.mov (.con (.nilp)))]) (.seq (.reg [oo 5 (.build [.int .u64 0] [(0,1,(.con (.int .u64 2685821657736338717)))]),oo 6 (.box (Z 5)),oo 3 (.mov (Z 6))]) (.seq (.seq (.reg [oo 4 (.mov (.con (i6 0)))]) (.block 0 (.loop (.seq (.seq (.reg [oo 7 (.mov (Z 4)),oo 8 (.mov (Z 0)),oo 9 (.len false (Z 8)),oo 10 (.bin .lss (Z 7) (Z 9))]) (.cond (Z 10) .skip (.exit 0))) (.seq (.block 1 (.seq (.dreg 11 0 [oo 13 (.mov (Z 3)),oo 14 (.mov (Z 3)),oo 15 (.nilck (Z 14)),oo 16 (.faddr (Z 15) 0),oo 17 (.load none (Z 16)),oo 18 (.mov (Z 0)),oo 19 (.mov (Z 4)),oo 20 (.iaddr (Z 18) (Z 19) 1 none),oo 21 (.load none (Z 20)),oo 22 (.conv .u64 (Z 21)),oo 23 (.bin .xor (Z 17) (Z 22)),oo 24 (.nilck (Z 13)),oo 25 (.faddr (Z 24) 0),on (.store 1 (Z 25) (Z 23))]) (.reg [oo 26 (.mov (Z 3)),oo 27 (.call (.con (.fn 13 [] [])) [(Z 26)])]))) (.reg [oo 11 (.mov (Z 4)),oo 12 (.bin .add (Z 11) (.con (i6 1))),oo 4 (.mov (Z 12))])))))) (.seq (.reg [oo 28 (.mov (Z 3)),oo 2 (.mov (Z 28))]) .ret))))⟩
theorem comp4 : compFn Tryd.prog 4 = some F4:=by kernel_rfl
def F5 : AFn:=⟨1,36,[.cell 2 (some 6)],(.seq (.reg [oo 2 (.box (.con (.agg [.nils,.nils,.nils,i6 0,i6 0,.nils])))]) (.seq (.reg [oo 5 (.mov (Z 0)),oo 6 (.call (.con (.fn 14 [] [])) [(Z 5),(.con (i6 4)),(.con (i6 5)),(.con (i6 1))]),oo 7 (.mov (Z 0)),oo 8 (.mov (Z 0)),oo 9 (.call (.con (.fn 10 [] [])) [(Z 8),(.con (i6 10))]),oo 10 (.mov (Z 0)),oo 11 (.call (.con (.fn 10 [] [])) [(Z 10),(.con (i6 60))]),oo 12 (.bsl 1 false [i6 0] 4 [(0,(.con (i6 0))),(1,(.con (i6 1))),(2,(Z 9)),(3,(Z 11))]),oo 13 (.call (.con (.fn 15 [] [])) [(Z 7),(Z 12)]),oo 14 (.build [.nils,.nils,.nils,i6 0,i6 0,.nils] [(0,4,(Z 6)),(4,1,(Z 13))]),oo 3 (.box (.con (.agg [.nils,.nils,.nils,i6 0,i6 0,.nils]))),on (.store 6 (Z 3) (Z 14))]) (.seq (.seq (.reg [oo 4 (.mov (.con (i6 0)))]) (.block 0 (.loop (.seq (.seq (.reg [oo 15 (.mov (Z 4)),oo 16 (.faddr (Z 3) 0),oo 17 (.faddr (Z 16) 0),oo 18 (.load none (Z 17)),oo 19 (.len false (Z 18)),oo 20 (.bin .lss (Z 15) (Z 19))]) (.cond (Z 20) .skip (.exit 0))) (.seq (.block 1 (.dreg 10 0 [oo 23 (.faddr (Z 3) 5),oo 24 (.load none (Z 23)),oo 25 (.mov (Z 0)),oo 26 (.mov (Z 0)),oo 27 (.call (.con (.fn 10 [] [])) [(Z 26),(.con (i6 721))]),oo 28 (.mov (Z 0)),oo 29 (.call (.con (.fn 16 [] [])) [(Z 28),(.con (i6 300)),(.con (i6 600))]),oo 30 (.bsl 1 false [i6 0] 3 [(0,(.con (i6 0))),(1,(Z 27)),(2,(Z 29))]),oo 31 (.call (.con (.fn 15 [] [])) [(Z 25),(Z 30)]),oo 32 (.bsl 1 false [i6 0] 1 [(0,(Z 31))]),oo 33 (.app (Z 24) (Z 32) 1 8 [i6 0]),oo 34 (.faddr (Z 3) 5),on (.store 1 (Z 34) (Z 33))])) (.reg [oo 21 (.mov (Z 4)),oo 22 (.bin .add (Z 21) (.con (i6 1))),oo 4 (.mov (Z 22))])))))) (.seq (.reg [oo 35 (.load (some 6) (Z 3)),on (.store 6 (Z 2) (Z 35))]) .ret))))⟩
theorem comp5 : compFn Tryd.prog 5 = some F5:=by kernel_rfl
def F6 : AFn:=⟨3,24,[.tmp 6],(.seq (.reg [oo 4 (.box (Z 1)),oo 6 (.mov (.con (.nils)))]) (.seq (.reg [oo 7 (.mov (.con (.nils)))]) (.seq (.seq (.reg [oo 9 (.mov (Z 0)),oo 10 (.mov (Z 2)),oo 11 (.bin .add (Z 10) (.con (i6 1))),oo 12 (.call (.con (.fn 10 [] [])) [(Z 9),(Z 11)]),oo 8 (.mov (Z 12))]) (.block 0 (.loop (.seq (.seq (.reg [oo 13 (.mov (Z 8)),oo 14 (.bin .gtr (Z 13) (.con (i6 0)))]) (.cond (Z 14) .skip (.exit 0))) (.seq (.block 1 (.reg [oo 17 (.mov (Z 7)),oo 18 (.mov (Z 0)),oo 19 (.load (some 6) (Z 4)),oo 20 (.call (.con (.fn 17 [] [])) [(Z 18),(Z 19)]),oo 21 (.bsl 6 true [i6 0,.nils,i6 0,i6 0,i6 0,i6 0] 1 [(0,(Z 20))]),oo 22 (.app (Z 17) (Z 21) 6 64 [i6 0,.nils,i6 0,i6 0,i6 0,i6 0]),oo 7 (.mov (Z 22))])) (.reg [oo 15 (.mov (Z 8)),oo 16 (.bin .sub (Z 15) (.con (i6 1))),oo 8 (.mov (Z 16))])))))) (.seq (.reg [oo 23 (.mov (Z 7)),oo 6 (.mov (Z 23))]) .ret))))⟩
theorem comp6 : compFn Tryd.prog 6 = some F6:=by kernel_rfl
def F7 : AFn:=⟨1,25,[.tmp 2],(.seq (.reg [oo 2 (.mov (.con (.nils)))]) (.seq (.reg [oo 3 (.mov (.con (.nils)))]) (.seq (.seq (.reg [oo 4 (.mov (.con (i6 0)))]) (.block 0 (.loop (.seq (.seq (.reg [oo 6 (.mov (Z 4)),oo 7 (.mov (Z 0)),oo 8 (.len false (Z 7)),oo 9 (.bin .lss (Z 6) (Z 8))]) (.cond (Z 9) .skip (.exit 0))) (.seq (.block 1 (.seq (.reg [oo 12 (.mov (Z 0)),oo 13 (.mov (Z 4)),oo 14 (.iaddr (Z 12) (Z 13) 6 none),oo 15 (.load (some 6) (Z 14)),oo 5 (.box (.con (.agg [i6 0,.nils,i6 0,i6 0,i6 0,i6 0]))),on (.store 6 (Z 5) (Z 15))]) (.seq (.reg [oo 16 (.faddr (Z 5) 1),oo 17 (.load none (Z 16)),oo 18 (.call (.con (.fn 18 [] [])) [(Z 17)]),oo 19 (.faddr (Z 5) 1),on (.store 1 (Z 19) (Z 18))]) (.reg [oo 20 (.mov (Z 3)),oo 21 (.load (some 6) (Z 5)),oo 22 (.bsl 6 true [i6 0,.nils,i6 0,i6 0,i6 0,i6 0] 1 [(0,(Z 21))]),oo 23 (.app (Z 20) (Z 22) 6 64 [i6 0,.nils,i6 0,i6 0,i6 0,i6 0]),oo 3 (.mov (Z 23))])))) (.reg [oo 10 (.mov (Z 4)),oo 11 (.bin .add (Z 10) (.con (i6 1))),oo 4 (.mov (Z 11))])))))) (.seq (.reg [oo 24 (.mov (Z 3)),oo 2 (.mov (Z 24))]) .ret))))⟩
theorem comp7 : compFn Tryd.prog 7 = some F7:=by kernel_rfl
def F8 : AFn:=⟨2,20,[.cell 4 (some 2)],(.seq (.reg [oo 3 (.box (Z 1)),oo 4 (.box (.con (.agg [i6 0,i6 0])))]) (.seq (.dreg 5 0 [oo 7 (.mov (Z 0)),oo 8 (.load (some 2) (Z 3)),oo 9 (.call (.con (.fn 19 [] [])) [(Z 7),(Z 8)]),oo 10 (.mov (Z 0)),oo 11 (.load (some 2) (Z 3)),oo 12 (.call (.con (.fn 19 [] [])) [(Z 10),(Z 11)]),oo 5 (.mov (Z 9)),oo 6 (.mov (Z 12))]) (.seq (.reg [oo 13 (.mov (Z 5)),oo 14 (.mov (Z 6)),oo 15 (.mn (Z 13) (Z 14)),oo 16 (.mov (Z 5)),oo 17 (.mov (Z 6)),oo 18 (.mx (Z 16) (Z 17)),oo 19 (.build [i6 0,i6 0] [(0,1,(Z 15)),(1,1,(Z 18))]),on (.store 2 (Z 4) (Z 19))]) .ret)))⟩
theorem comp8 : compFn Tryd.prog 8 = some F8:=by kernel_rfl
def F9 : AFn:=⟨3,30,[.tmp 6,.tmp 7],(.seq (.reg [oo 3 (.box (Z 0)),oo 4 (.box (Z 1)),oo 5 (.box (Z 2)),oo 6 (.mov (.con (i6 0))),oo 7 (.mov (.con (i6 0)))]) (.seq (.reg [oo 11 (.load (some 6) (Z 3)),oo 12 (.load (some 6) (Z 4)),oo 13 (.load (some 6) (Z 5)),oo 14 (.bsl 6 true [i6 0,.nils,i6 0,i6 0,i6 0,i6 0] 2 [(0,(Z 12)),(1,(Z 13))]),oo 15 (.call (.con (.fn 20 [] [])) [(Z 11),(Z 14)]),oo 10 (.mov (Z 15)),oo 16 (.ext (Z 10) 0),oo 17 (.ext (Z 10) 1),oo 8 (.mov (Z 16)),oo 9 (.mov (Z 17))]) (.seq (.seq (.reg [oo 18 (.mov (Z 9)),oo 19 (.bin .neq (Z 18) (.con (i6 0)))]) (.cond (Z 19) (.seq (.reg [oo 20 (.mov (Z 9)),oo 6 (.mov (.con (i6 0))),oo 7 (.mov (Z 20))]) .ret) .skip)) (.seq (.dreg 8 0 [oo 21 (.mov (Z 8)),oo 22 (.iaddr (Z 21) (.con (i6 0)) 7 none),oo 23 (.load (some 7) (Z 22)),oo 24 (.mov (Z 8)),oo 25 (.iaddr (Z 24) (.con (i6 1)) 7 none),oo 26 (.load (some 7) (Z 25)),oo 27 (.faddr (Z 3) 4),oo 28 (.load none (Z 27)),oo 29 (.call (.con (.fn 21 [] [])) [(Z 23),(Z 26),(Z 28)]),oo 6 (.mov (Z 29)),oo 7 (.mov (.con (i6 0)))]) .ret))))⟩
theorem comp9 : compFn Tryd.prog 9 = some F9:=by kernel_rfl
def F10 : AFn:=⟨2,14,[.tmp 4],(.seq (.reg [oo 4 (.mov (.con (i6 0)))]) (.seq (.seq (.reg [oo 5 (.mov (Z 1)),oo 6 (.bin .lss (Z 5) (.con (i6 2)))]) (.cond (Z 6) (.seq (.reg [oo 4 (.mov (.con (i6 0)))]) .ret) .skip)) (.seq (.reg [oo 7 (.mov (Z 0)),oo 8 (.call (.con (.fn 13 [] [])) [(Z 7)]),oo 9 (.bin .shr (Z 8) (.con (.int .u64 1))),oo 10 (.mov (Z 1)),oo 11 (.conv .u64 (Z 10)),oo 12 (.bin .rem (Z 9) (Z 11)),oo 13 (.conv .i64 (Z 12)),oo 4 (.mov (Z 13))]) .ret)))⟩
theorem comp10 : compFn Tryd.prog 10 = some F10:=by kernel_rfl
def F11 : AFn:=⟨3,38,[.tmp 6,.tmp 7,.tmp 8],(.seq (.reg [oo 3 (.box (Z 0)),oo 6 (.mov (.con (i6 0))),oo 7 (.mov (.con (i6 0))),oo 8 (.mov (.con (i6 0)))]) (.seq (.reg [oo 11 (.load (some 6) (Z 3)),oo 12 (.mov (Z 1)),oo 13 (.call (.con (.fn 20 [] [])) [(Z 11),(Z 12)]),oo 10 (.mov (Z 13)),oo 14 (.ext (Z 10) 0),oo 15 (.ext (Z 10) 1),oo 9 (.mov (Z 14)),oo 8 (.mov (Z 15))]) (.seq (.block 0 (.seq (.reg [oo 17 (.mov (Z 8)),oo 18 (.bin .neq (Z 17) (.con (i6 0))),oo 16 (.mov (Z 18))]) (.cond (Z 16) (.seq (.reg [oo 19 (.mov (Z 8)),oo 6 (.mov (.con (i6 0))),oo 7 (.mov (.con (i6 0))),oo 8 (.mov (Z 19))]) .ret) (.seq (.reg [oo 21 (.mov (Z 2)),oo 22 (.faddr (Z 3) 0),oo 23 (.faddr (Z 22) 0),oo 24 (.load none (Z 23)),oo 25 (.len false (Z 24)),oo 26 (.bin .sub (Z 25) (.con (i6 1))),oo 27 (.call (.con (.fn 22 [] [])) [(Z 21),(.con (i6 0)),(Z 26)]),oo 28 (.un .not (Z 27)),oo 20 (.mov (Z 28))]) (.cond (Z 20) (.seq (.reg [oo 6 (.mov (.con (i6 0))),oo 7 (.mov (.con (i6 0))),oo 8 (.mov (.con (i6 7)))]) .ret) .skip))))) (.seq (.reg [oo 30 (.mov (Z 9)),oo 31 (.mov (Z 2)),oo 32 (.call (.con (.fn 23 [] [])) [(Z 30),(Z 31)]),oo 33 (.call (.con (.fn 24 [] [])) [(Z 32)]),oo 29 (.mov (Z 33)),oo 34 (.ext (Z 29) 0),oo 35 (.ext (Z 29) 1),oo 6 (.mov (Z 34)),oo 7 (.mov (Z 35))]) (.seq (.reg [oo 36 (.mov (Z 6)),oo 37 (.mov (Z 7)),oo 6 (.mov (Z 36)),oo 7 (.mov (Z 37)),oo 8 (.mov (.con (i6 0)))]) .ret)))))⟩
theorem comp11 : compFn Tryd.prog 11 = some F11:=by kernel_rfl
def F12 : AFn:=⟨0,58,[.tmp 0],(.seq (.reg [oo 0 (.mov (.con (.bool false)))]) (.seq (.reg [oo 9 (.call (.con (.fn 26 [] [])) []),oo 10 (.call (.con (.fn 27 [] [])) []),oo 11 (.call (.con (.fn 25 [] [])) [(Z 9),(Z 10)]),oo 8 (.mov (Z 11)),oo 12 (.ext (Z 8) 0),oo 13 (.ext (Z 8) 1),oo 1 (.mov (Z 12)),oo 2 (.mov (Z 13))]) (.seq (.dreg 10 0 [oo 15 (.call (.con (.fn 26 [] [])) []),oo 16 (.call (.con (.fn 27 [] [])) []),oo 17 (.iaddr (Z 16) (.con (i6 0)) 6 none),oo 18 (.load (some 6) (Z 17)),oo 19 (.call (.con (.fn 28 [] [])) [(.con (i6 60))]),oo 20 (.call (.con (.fn 9 [] [])) [(Z 15),(Z 18),(Z 19)]),oo 14 (.mov (Z 20)),oo 21 (.ext (Z 14) 0),oo 22 (.ext (Z 14) 1),oo 3 (.mov (Z 21)),oo 4 (.mov (Z 22))]) (.seq (.reg [oo 24 (.call (.con (.fn 26 [] [])) []),oo 25 (.call (.con (.fn 27 [] [])) []),oo 26 (.slc false 6 (Z 25) none (some (.con (i6 1)))),oo 27 (.call (.con (.fn 11 [] [])) [(Z 24),(Z 26),(.con (i6 0))]),oo 23 (.mov (Z 27)),oo 28 (.ext (Z 23) 0),oo 29 (.ext (Z 23) 1),oo 30 (.ext (Z 23) 2),oo 5 (.mov (Z 28)),oo 6 (.mov (Z 29)),oo 7 (.mov (Z 30))]) (.seq (.reg [oo 31 (.mov (Z 2)),oo 32 (.bin .eql (Z 31) (.con (i6 0))),oo 33 (.mov (Z 32)),⟨some 34,.mov (Z 4),some (33,true)⟩,⟨some 35,.bin .eql (Z 34) (.con (i6 0)),some (33,true)⟩,oo 36 (.pick (Z 33) (Z 35) (.con (.bool false))),oo 37 (.mov (Z 36)),⟨some 38,.mov (Z 7),some (37,true)⟩,⟨some 39,.bin .eql (Z 38) (.con (i6 0)),some (37,true)⟩,oo 40 (.pick (Z 37) (Z 39) (.con (.bool false))),oo 41 (.mov (Z 40)),⟨some 42,.mov (Z 1),some (41,true)⟩,⟨some 43,.bsl 1 false [i6 0] 4 [(0,(.con (i6 0))),(1,(.con (i6 10))),(2,(.con (i6 13))),(3,(.con (i6 11)))],some (41,true)⟩,⟨some 44,.call (.con (.fn 29 [] [])) [(Z 42),(Z 43)],some (41,true)⟩,oo 45 (.pick (Z 41) (Z 44) (.con (.bool false))),oo 46 (.mov (Z 45)),⟨some 47,.mov (Z 3),some (46,true)⟩,⟨some 48,.bin .eql (Z 47) (.con (i6 3)),some (46,true)⟩,oo 49 (.pick (Z 46) (Z 48) (.con (.bool false))),oo 50 (.mov (Z 49)),⟨some 51,.mov (Z 5),some (50,true)⟩,⟨some 52,.bin .eql (Z 51) (.con (i6 130)),some (50,true)⟩,oo 53 (.pick (Z 50) (Z 52) (.con (.bool false))),oo 54 (.mov (Z 53)),⟨some 55,.mov (Z 6),some (54,true)⟩,⟨some 56,.bin .eql (Z 55) (.con (i6 590)),some (54,true)⟩,oo 57 (.pick (Z 54) (Z 56) (.con (.bool false))),oo 0 (.mov (Z 57))]) .ret)))))⟩
theorem comp12 : compFn Tryd.prog 12 = some F12:=by kernel_rfl
def F13 : AFn:=⟨1,31,[.tmp 2],(.seq (.reg [oo 2 (.mov (.con (.int .u64 0)))]) (.seq (.reg [oo 4 (.mov (Z 0)),oo 5 (.mov (Z 0)),oo 6 (.nilck (Z 5)),oo 7 (.faddr (Z 6) 0),oo 8 (.load none (Z 7)),oo 9 (.bin .mul (Z 8) (.con (.int .u64 15074714826142052245))),oo 10 (.bin .add (Z 9) (.con (.int .u64 11400714819323198485))),oo 11 (.nilck (Z 4)),oo 12 (.faddr (Z 11) 0),on (.store 1 (Z 12) (Z 10))]) (.seq (.reg [oo 13 (.mov (Z 0)),oo 14 (.nilck (Z 13)),oo 15 (.faddr (Z 14) 0),oo 16 (.load none (Z 15)),oo 3 (.mov (Z 16))]) (.seq (.reg [oo 17 (.mov (Z 3)),oo 18 (.mov (Z 3)),oo 19 (.bin .shr (Z 18) (.con (.int .u64 32))),oo 20 (.bin .xor (Z 17) (Z 19)),oo 21 (.bin .mul (Z 20) (.con (.int .u64 15760922415973212899))),oo 3 (.mov (Z 21))]) (.seq (.reg [oo 22 (.mov (Z 3)),oo 23 (.mov (Z 3)),oo 24 (.bin .shr (Z 23) (.con (.int .u64 32))),oo 25 (.bin .xor (Z 22) (Z 24)),oo 26 (.bin .mul (Z 25) (.con (.int .u64 15760922415973212899))),oo 3 (.mov (Z 26))]) (.seq (.reg [oo 27 (.mov (Z 3)),oo 28 (.mov (Z 3)),oo 29 (.bin .shr (Z 28) (.con (.int .u64 32))),oo 30 (.bin .xor (Z 27) (Z 29)),oo 2 (.mov (Z 30))]) .ret))))))⟩
theorem comp13 : compFn Tryd.prog 13 = some F13:=by kernel_rfl
def F14 : AFn:=⟨4,142,[.cell 8 (some 4)],(.seq (.reg [oo 8 (.box (.con (.agg [.nils,.nils,.nils,i6 0])))]) (.seq (.reg [oo 20 (.mov (Z 0)),oo 21 (.mov (Z 0)),oo 22 (.bsl 1 false [i6 0] 2 [(0,(.con (i6 4))),(1,(.con (i6 11)))]),oo 23 (.call (.con (.fn 15 [] [])) [(Z 21),(Z 22)]),oo 24 (.call (.con (.fn 10 [] [])) [(Z 20),(Z 23)]),oo 25 (.build [.nils,.nils,.nils,i6 0] [(3,1,(Z 24))]),oo 9 (.box (.con (.agg [.nils,.nils,.nils,i6 0]))),on (.store 4 (Z 9) (Z 25))]) (.seq (.reg [oo 26 (.mov (Z 0)),oo 27 (.mov (Z 1)),oo 28 (.call (.con (.fn 16 [] [])) [(Z 26),(.con (i6 1)),(Z 27)]),oo 10 (.mov (Z 28))]) (.seq (.seq (.reg [oo 11 (.mov (.con (i6 0)))]) (.block 0 (.loop (.seq (.seq (.reg [oo 29 (.mov (Z 11)),oo 30 (.mov (Z 10)),oo 31 (.bin .lss (Z 29) (Z 30))]) (.cond (Z 31) .skip (.exit 0))) (.seq (.block 1 (.dreg 10 0 [oo 34 (.faddr (Z 9) 0),oo 35 (.load none (Z 34)),oo 36 (.mov (Z 0)),oo 37 (.mov (Z 0)),oo 38 (.call (.con (.fn 10 [] [])) [(Z 37),(.con (i6 60))]),oo 39 (.mov (Z 0)),oo 40 (.call (.con (.fn 10 [] [])) [(Z 39),(.con (i6 150))]),oo 41 (.bsl 1 false [i6 0] 3 [(0,(Z 38)),(1,(Z 40)),(2,(.con (i6 500)))]),oo 42 (.call (.con (.fn 15 [] [])) [(Z 36),(Z 41)]),oo 43 (.bsl 1 false [i6 0] 1 [(0,(Z 42))]),oo 44 (.app (Z 35) (Z 43) 1 8 [i6 0]),oo 45 (.faddr (Z 9) 0),on (.store 1 (Z 45) (Z 44))])) (.reg [oo 32 (.mov (Z 11)),oo 33 (.bin .add (Z 32) (.con (i6 1))),oo 11 (.mov (Z 33))])))))) (.seq (.seq (.reg [oo 46 (.mov (Z 0)),oo 47 (.mov (Z 2)),oo 48 (.bin .add (Z 47) (.con (i6 1))),oo 49 (.call (.con (.fn 10 [] [])) [(Z 46),(Z 48)]),oo 12 (.mov (Z 49))]) (.block 2 (.loop (.seq (.seq (.reg [oo 50 (.mov (Z 12)),oo 51 (.bin .gtr (Z 50) (.con (i6 0))),oo 52 (.mov (Z 51)),⟨some 53,.mov (Z 10),some (52,true)⟩,⟨some 54,.bin .gtr (Z 53) (.con (i6 1)),some (52,true)⟩,oo 55 (.pick (Z 52) (Z 54) (.con (.bool false)))]) (.cond (Z 55) .skip (.exit 2))) (.seq (.block 3 (.seq (.reg [oo 58 (.mov (Z 0)),oo 59 (.mov (Z 10)),oo 60 (.call (.con (.fn 10 [] [])) [(Z 58),(Z 59)]),oo 13 (.mov (Z 60))]) (.dreg 13 0 [oo 61 (.faddr (Z 9) 1),oo 62 (.load none (Z 61)),oo 63 (.mov (Z 13)),oo 64 (.mov (Z 13)),oo 65 (.mov (Z 0)),oo 66 (.mov (Z 10)),oo 67 (.bin .sub (Z 66) (.con (i6 1))),oo 68 (.call (.con (.fn 16 [] [])) [(Z 65),(.con (i6 1)),(Z 67)]),oo 69 (.bin .add (Z 64) (Z 68)),oo 70 (.mov (Z 10)),oo 71 (.call (.con (.fn 30 [] [])) [(Z 69),(Z 70)]),oo 72 (.build [i6 0,i6 0] [(0,1,(Z 63)),(1,1,(Z 71))]),oo 73 (.bsl 2 true [i6 0,i6 0] 1 [(0,(Z 72))]),oo 74 (.app (Z 62) (Z 73) 2 16 [i6 0,i6 0]),oo 75 (.faddr (Z 9) 1),on (.store 1 (Z 75) (Z 74))]))) (.reg [oo 56 (.mov (Z 12)),oo 57 (.bin .sub (Z 56) (.con (i6 1))),oo 12 (.mov (Z 57))])))))) (.seq (.seq (.reg [oo 76 (.mov (Z 0)),oo 77 (.mov (Z 3)),oo 78 (.bin .add (Z 77) (.con (i6 1))),oo 79 (.call (.con (.fn 10 [] [])) [(Z 76),(Z 78)]),oo 14 (.mov (Z 79))]) (.block 4 (.loop (.seq (.seq (.reg [oo 80 (.mov (Z 14)),oo 81 (.bin .gtr (Z 80) (.con (i6 0)))]) (.cond (Z 81) .skip (.exit 4))) (.seq (.block 5 (.seq (.reg [oo 84 (.mov (Z 0)),oo 85 (.mov (Z 0)),oo 86 (.bsl 1 false [i6 0] 2 [(0,(.con (i6 30))),(1,(.con (i6 90)))]),oo 87 (.call (.con (.fn 15 [] [])) [(Z 85),(Z 86)]),oo 88 (.call (.con (.fn 31 [] [])) [(Z 84),(.con (i6 0)),(Z 87)]),oo 89 (.mov (Z 0)),oo 90 (.mov (Z 0)),oo 91 (.bsl 1 false [i6 0] 2 [(0,(.con (i6 0))),(1,(.con (i6 4)))]),oo 92 (.call (.con (.fn 15 [] [])) [(Z 90),(Z 91)]),oo 93 (.call (.con (.fn 31 [] [])) [(Z 89),(.con (i6 0)),(Z 92)]),oo 94 (.mov (Z 0)),oo 95 (.call (.con (.fn 16 [] [])) [(Z 94),(.con (i6 1)),(.con (i6 4))]),oo 96 (.mov (Z 0)),oo 97 (.mov (Z 10)),oo 98 (.call (.con (.fn 10 [] [])) [(Z 96),(Z 97)]),oo 99 (.build [i6 0,i6 0,i6 0,i6 0,i6 0,i6 0,.nils] [(0,2,(Z 88)),(2,2,(Z 93)),(4,1,(Z 95)),(5,1,(Z 98))]),oo 15 (.box (.con (.agg [i6 0,i6 0,i6 0,i6 0,i6 0,i6 0,.nils]))),on (.store 7 (Z 15) (Z 99))]) (.seq (.reg [oo 100 (.faddr (Z 15) 5),oo 101 (.load none (Z 100)),oo 16 (.mov (Z 101))]) (.seq (.seq (.reg [oo 102 (.mov (Z 0)),oo 103 (.call (.con (.fn 10 [] [])) [(Z 102),(.con (i6 5))]),oo 17 (.mov (Z 103))]) (.block 6 (.loop (.seq (.seq (.reg [oo 104 (.mov (Z 17)),oo 105 (.bin .gtr (Z 104) (.con (i6 0))),oo 106 (.mov (Z 105)),⟨some 107,.faddr (Z 9) 1,some (106,true)⟩,⟨some 108,.load none (Z 107),some (106,true)⟩,⟨some 109,.len false (Z 108),some (106,true)⟩,⟨some 110,.bin .gtr (Z 109) (.con (i6 0)),some (106,true)⟩,oo 111 (.pick (Z 106) (Z 110) (.con (.bool false)))]) (.cond (Z 111) .skip (.exit 6))) (.seq (.block 7 (.seq (.reg [oo 114 (.mov (Z 0)),oo 115 (.faddr (Z 9) 1),oo 116 (.load none (Z 115)),oo 117 (.len false (Z 116)),oo 118 (.call (.con (.fn 10 [] [])) [(Z 114),(Z 117)]),oo 18 (.mov (Z 118))]) (.seq (.reg [oo 119 (.faddr (Z 9) 1),oo 120 (.load none (Z 119)),oo 121 (.mov (Z 18)),oo 122 (.iaddr (Z 120) (Z 121) 2 none),oo 123 (.load (some 2) (Z 122)),oo 124 (.mov (Z 16)),oo 125 (.call (.con (.fn 32 [] [])) [(Z 123),(Z 124)]),oo 19 (.mov (Z 125))]) (.seq (.reg [oo 126 (.mov (Z 19)),oo 127 (.bin .geq (Z 126) (.con (i6 0)))]) (.cond (Z 127) (.reg [oo 128 (.faddr (Z 15) 6),oo 129 (.load none (Z 128)),oo 130 (.mov (Z 18)),oo 131 (.bsl 1 false [i6 0] 1 [(0,(Z 130))]),oo 132 (.app (Z 129) (Z 131) 1 8 [i6 0]),oo 133 (.mov (Z 19)),oo 134 (.faddr (Z 15) 6),on (.store 1 (Z 134) (Z 132)),oo 16 (.mov (Z 133))]) .skip))))) (.reg [oo 112 (.mov (Z 17)),oo 113 (.bin .sub (Z 112) (.con (i6 1))),oo 17 (.mov (Z 113))])))))) (.reg [oo 135 (.faddr (Z 9) 2),oo 136 (.load none (Z 135)),oo 137 (.load (some 7) (Z 15)),oo 138 (.bsl 7 true [i6 0,i6 0,i6 0,i6 0,i6 0,i6 0,.nils] 1 [(0,(Z 137))]),oo 139 (.app (Z 136) (Z 138) 7 72 [i6 0,i6 0,i6 0,i6 0,i6 0,i6 0,.nils]),oo 140 (.faddr (Z 9) 2),on (.store 1 (Z 140) (Z 139))]))))) (.reg [oo 82 (.mov (Z 14)),oo 83 (.bin .sub (Z 82) (.con (i6 1))),oo 14 (.mov (Z 83))])))))) (.seq (.reg [oo 141 (.load (some 4) (Z 9)),on (.store 4 (Z 8) (Z 141))]) .ret)))))))⟩
theorem comp14 : compFn Tryd.prog 14 = some F14:=by kernel_rfl
def F15 : AFn:=⟨2,15,[.tmp 4],(.seq (.reg [oo 4 (.mov (.con (i6 0)))]) (.seq (.seq (.reg [oo 5 (.mov (Z 1)),oo 6 (.len false (Z 5)),oo 7 (.bin .eql (Z 6) (.con (i6 0)))]) (.cond (Z 7) (.seq (.reg [oo 4 (.mov (.con (i6 0)))]) .ret) .skip)) (.seq (.reg [oo 8 (.mov (Z 1)),oo 9 (.mov (Z 0)),oo 10 (.mov (Z 1)),oo 11 (.len false (Z 10)),oo 12 (.call (.con (.fn 10 [] [])) [(Z 9),(Z 11)]),oo 13 (.iaddr (Z 8) (Z 12) 1 none),oo 14 (.load none (Z 13)),oo 4 (.mov (Z 14))]) .ret)))⟩
theorem comp15 : compFn Tryd.prog 15 = some F15:=by kernel_rfl
def F16 : AFn:=⟨3,15,[.tmp 6],(.seq (.reg [oo 6 (.mov (.con (i6 0)))]) (.seq (.reg [oo 7 (.mov (Z 1)),oo 8 (.mov (Z 0)),oo 9 (.mov (Z 2)),oo 10 (.mov (Z 1)),oo 11 (.bin .sub (Z 9) (Z 10)),oo 12 (.bin .add (Z 11) (.con (i6 1))),oo 13 (.call (.con (.fn 10 [] [])) [(Z 8),(Z 12)]),oo 14 (.bin .add (Z 7) (Z 13)),oo 6 (.mov (Z 14))]) .ret))⟩
theorem comp16 : compFn Tryd.prog 16 = some F16:=by kernel_rfl
def F17 : AFn:=⟨2,93,[.cell 4 (some 6)],(.seq (.reg [oo 3 (.box (Z 1)),oo 4 (.box (.con (.agg [i6 0,.nils,i6 0,i6 0,i6 0,i6 0])))]) (.seq (.reg [oo 11 (.mov (Z 0)),oo 12 (.faddr (Z 3) 0),oo 13 (.faddr (Z 12) 0),oo 14 (.load none (Z 13)),oo 15 (.len false (Z 14)),oo 16 (.call (.con (.fn 10 [] [])) [(Z 11),(Z 15)]),oo 17 (.mov (Z 0)),oo 18 (.mov (Z 0)),oo 19 (.bsl 1 false [i6 0] 2 [(0,(.con (i6 6))),(1,(.con (i6 20)))]),oo 20 (.call (.con (.fn 15 [] [])) [(Z 18),(Z 19)]),oo 21 (.call (.con (.fn 16 [] [])) [(Z 17),(.con (i6 1)),(Z 20)]),oo 22 (.mov (Z 0)),oo 23 (.mov (Z 0)),oo 24 (.call (.con (.fn 10 [] [])) [(Z 23),(.con (i6 60))]),oo 25 (.mov (Z 0)),oo 26 (.call (.con (.fn 10 [] [])) [(Z 25),(.con (i6 600))]),oo 27 (.bsl 1 false [i6 0] 3 [(0,(.con (i6 0))),(1,(Z 24)),(2,(Z 26))]),oo 28 (.call (.con (.fn 15 [] [])) [(Z 22),(Z 27)]),oo 29 (.build [i6 0,.nils,i6 0,i6 0,i6 0,i6 0] [(0,1,(Z 16)),(4,1,(Z 21)),(5,1,(Z 28))]),oo 5 (.box (.con (.agg [i6 0,.nils,i6 0,i6 0,i6 0,i6 0]))),on (.store 6 (Z 5) (Z 29))]) (.seq (.reg [oo 30 (.faddr (Z 5) 0),oo 31 (.load none (Z 30)),oo 6 (.mov (Z 31))]) (.seq (.seq (.reg [oo 32 (.mov (Z 0)),oo 33 (.call (.con (.fn 10 [] [])) [(Z 32),(.con (i6 5))]),oo 7 (.mov (Z 33))]) (.block 0 (.loop (.seq (.seq (.reg [oo 34 (.mov (Z 7)),oo 35 (.bin .gtr (Z 34) (.con (i6 0))),oo 36 (.mov (Z 35)),⟨some 37,.faddr (Z 3) 0,some (36,true)⟩,⟨some 38,.faddr (Z 37) 1,some (36,true)⟩,⟨some 39,.load none (Z 38),some (36,true)⟩,⟨some 40,.len false (Z 39),some (36,true)⟩,⟨some 41,.bin .gtr (Z 40) (.con (i6 0)),some (36,true)⟩,oo 42 (.pick (Z 36) (Z 41) (.con (.bool false)))]) (.cond (Z 42) .skip (.exit 0))) (.seq (.block 1 (.seq (.reg [oo 45 (.mov (Z 0)),oo 46 (.faddr (Z 3) 0),oo 47 (.faddr (Z 46) 1),oo 48 (.load none (Z 47)),oo 49 (.len false (Z 48)),oo 50 (.call (.con (.fn 10 [] [])) [(Z 45),(Z 49)]),oo 8 (.mov (Z 50))]) (.seq (.reg [oo 51 (.faddr (Z 3) 0),oo 52 (.faddr (Z 51) 1),oo 53 (.load none (Z 52)),oo 54 (.mov (Z 8)),oo 55 (.iaddr (Z 53) (Z 54) 2 none),oo 56 (.load (some 2) (Z 55)),oo 57 (.mov (Z 6)),oo 58 (.call (.con (.fn 32 [] [])) [(Z 56),(Z 57)]),oo 9 (.mov (Z 58))]) (.seq (.reg [oo 59 (.mov (Z 9)),oo 60 (.bin .geq (Z 59) (.con (i6 0)))]) (.cond (Z 60) (.reg [oo 61 (.faddr (Z 5) 1),oo 62 (.load none (Z 61)),oo 63 (.mov (Z 8)),oo 64 (.bsl 1 false [i6 0] 1 [(0,(Z 63))]),oo 65 (.app (Z 62) (Z 64) 1 8 [i6 0]),oo 66 (.mov (Z 9)),oo 67 (.faddr (Z 5) 1),on (.store 1 (Z 67) (Z 65)),oo 6 (.mov (Z 66))]) .skip))))) (.reg [oo 43 (.mov (Z 7)),oo 44 (.bin .sub (Z 43) (.con (i6 1))),oo 7 (.mov (Z 44))])))))) (.seq (.reg [oo 68 (.mov (Z 0)),oo 69 (.mov (Z 0)),oo 70 (.faddr (Z 5) 4),oo 71 (.load none (Z 70)),oo 72 (.faddr (Z 5) 1),oo 73 (.load none (Z 72)),oo 74 (.len false (Z 73)),oo 75 (.bin .add (Z 74) (.con (i6 1))),oo 76 (.bin .mul (Z 71) (Z 75)),oo 77 (.bin .sub (.con (i6 720)) (Z 76)),oo 78 (.bin .sub (Z 77) (.con (i6 4))),oo 79 (.bsl 1 false [i6 0] 3 [(0,(.con (i6 60))),(1,(.con (i6 200))),(2,(Z 78))]),oo 80 (.call (.con (.fn 15 [] [])) [(Z 69),(Z 79)]),oo 81 (.call (.con (.fn 10 [] [])) [(Z 68),(Z 80)]),oo 10 (.mov (Z 81))]) (.seq (.reg [oo 82 (.mov (Z 10)),oo 83 (.mov (Z 10)),oo 84 (.mov (Z 0)),oo 85 (.mov (Z 0)),oo 86 (.call (.con (.fn 10 [] [])) [(Z 85),(.con (i6 5))]),oo 87 (.bsl 1 false [i6 0] 3 [(0,(.con (i6 0))),(1,(.con (i6 0))),(2,(Z 86))]),oo 88 (.call (.con (.fn 15 [] [])) [(Z 84),(Z 87)]),oo 89 (.bin .add (Z 83) (Z 88)),oo 90 (.build [i6 0,i6 0] [(0,1,(Z 82)),(1,1,(Z 89))]),oo 91 (.faddr (Z 5) 2),on (.store 2 (Z 91) (Z 90))]) (.seq (.reg [oo 92 (.load (some 6) (Z 5)),on (.store 6 (Z 4) (Z 92))]) .ret)))))))⟩
theorem comp17 : compFn Tryd.prog 17 = some F17:=by kernel_rfl
def F18 : AFn:=⟨1,6,[.tmp 2],(.seq (.reg [oo 2 (.mov (.con (.nils)))]) (.seq (.reg [oo 3 (.bsl 1 false [i6 0] 0 []),oo 4 (.mov (Z 0)),oo 5 (.app (Z 3) (Z 4) 1 8 [i6 0]),oo 2 (.mov (Z 5))]) .ret))⟩
theorem comp18 : compFn Tryd.prog 18 = some F18:=by kernel_rfl
def F19 : AFn:=⟨2,21,[.tmp 4],(.seq (.reg [oo 3 (.box (Z 1)),oo 4 (.mov (.con (i6 0)))]) (.seq (.seq (.reg [oo 5 (.mov (Z 0)),oo 6 (.call (.con (.fn 10 [] [])) [(Z 5),(.con (i6 4))])]) (.block 0 (.seq (.reg [oo 8 (.bin .eql (Z 6) (.con (i6 0))),oo 7 (.mov (Z 8))]) (.cond (Z 7) (.seq (.reg [oo 9 (.faddr (Z 3) 0),oo 10 (.load none (Z 9)),oo 4 (.mov (Z 10))]) .ret) (.seq (.reg [oo 12 (.bin .eql (Z 6) (.con (i6 1))),oo 11 (.mov (Z 12))]) (.cond (Z 11) (.seq (.reg [oo 13 (.faddr (Z 3) 1),oo 14 (.load none (Z 13)),oo 4 (.mov (Z 14))]) .ret) .skip)))))) (.seq (.reg [oo 15 (.mov (Z 0)),oo 16 (.faddr (Z 3) 0),oo 17 (.load none (Z 16)),oo 18 (.faddr (Z 3) 1),oo 19 (.load none (Z 18)),oo 20 (.call (.con (.fn 16 [] [])) [(Z 15),(Z 17),(Z 19)]),oo 4 (.mov (Z 20))]) .ret)))⟩
theorem comp19 : compFn Tryd.prog 19 = some F19:=by kernel_rfl
def F20 : AFn:=⟨2,50,[.tmp 4,.tmp 5],(.seq (.reg [oo 2 (.box (Z 0)),oo 4 (.mov (.con (.nils))),oo 5 (.mov (.con (i6 0)))]) (.seq (.seq (.reg [oo 13 (.load (some 6) (Z 2)),oo 14 (.call (.con (.fn 33 [] [])) [(Z 13)]),oo 6 (.mov (Z 14))]) (.seq (.reg [oo 15 (.mov (Z 6)),oo 16 (.bin .neq (Z 15) (.con (i6 0)))]) (.cond (Z 16) (.seq (.reg [oo 17 (.mov (Z 6)),oo 4 (.mov (.con (.nils))),oo 5 (.mov (Z 17))]) .ret) .skip))) (.seq (.seq (.reg [oo 18 (.mov (Z 1)),oo 19 (.len false (Z 18)),oo 20 (.bin .gtr (Z 19) (.con (i6 10)))]) (.cond (Z 20) (.seq (.reg [oo 4 (.mov (.con (.nils))),oo 5 (.mov (.con (i6 5)))]) .ret) .skip)) (.seq (.reg [oo 7 (.mov (.con (.nils)))]) (.seq (.seq (.reg [oo 21 (.mov (Z 1)),oo 22 (.len false (Z 21)),oo 23 (.mov (.con (i6 0)))]) (.block 0 (.loop (.seq (.reg [oo 24 (.bin .lss (Z 23) (Z 22))]) (.seq (.cond (Z 24) .skip (.exit 0)) (.seq (.block 1 (.seq (.reg [oo 25 (.iaddr (Z 21) (Z 23) 6 none),oo 26 (.load (some 6) (Z 25)),oo 9 (.box (.con (.agg [i6 0,.nils,i6 0,i6 0,i6 0,i6 0]))),on (.store 6 (Z 9) (Z 26))]) (.seq (.reg [oo 28 (.faddr (Z 2) 0),oo 29 (.load (some 4) (Z 28)),oo 30 (.load (some 6) (Z 9)),oo 31 (.call (.con (.fn 34 [] [])) [(Z 29),(Z 30)]),oo 27 (.mov (Z 31)),oo 32 (.ext (Z 27) 0),oo 33 (.ext (Z 27) 1),oo 10 (.mov (Z 32)),oo 11 (.mov (Z 33))]) (.seq (.seq (.reg [oo 34 (.mov (Z 11)),oo 35 (.bin .neq (Z 34) (.con (i6 0)))]) (.cond (Z 35) (.seq (.reg [oo 36 (.mov (Z 11)),oo 4 (.mov (.con (.nils))),oo 5 (.mov (Z 36))]) .ret) .skip)) (.seq (.seq (.reg [oo 37 (.load (some 6) (Z 9)),oo 38 (.call (.con (.fn 35 [] [])) [(Z 37)]),oo 12 (.mov (Z 38))]) (.seq (.reg [oo 39 (.mov (Z 12)),oo 40 (.bin .neq (Z 39) (.con (i6 0)))]) (.cond (Z 40) (.seq (.reg [oo 41 (.mov (Z 12)),oo 4 (.mov (.con (.nils))),oo 5 (.mov (Z 41))]) .ret) .skip))) (.reg [oo 42 (.mov (Z 7)),oo 43 (.load (some 6) (Z 9)),oo 44 (.mov (Z 10)),oo 45 (.build [i6 0,.nils,i6 0,i6 0,i6 0,i6 0,.nils] [(0,6,(Z 43)),(6,1,(Z 44))]),oo 46 (.bsl 7 true [i6 0,.nils,i6 0,i6 0,i6 0,i6 0,.nils] 1 [(0,(Z 45))]),oo 47 (.app (Z 42) (Z 46) 7 88 [i6 0,.nils,i6 0,i6 0,i6 0,i6 0,.nils]),oo 7 (.mov (Z 47))])))))) (.reg [oo 48 (.bin .add (Z 23) (.con (i6 1))),oo 23 (.mov (Z 48))]))))))) (.seq (.reg [oo 49 (.mov (Z 7)),oo 4 (.mov (Z 49)),oo 5 (.mov (.con (i6 0)))]) .ret))))))⟩
theorem comp20 : compFn Tryd.prog 20 = some F20:=by kernel_rfl
def F21 : AFn:=⟨3,33,[.tmp 6],(.seq (.reg [oo 3 (.box (Z 0)),oo 4 (.box (Z 1)),oo 5 (.box (Z 2)),oo 6 (.mov (.con (i6 0)))]) (.seq (.reg [oo 7 (.box (.con (.bool false))),oo 8 (.box (.con (.bool false))),on (.store 1 (Z 7) (.con (.bool false))),on (.store 1 (Z 8) (.con (.bool false)))]) (.seq (.seq (.reg [oo 12 (.load (some 7) (Z 3)),oo 13 (.call (.con (.fn 36 [] [])) [(Z 12)])]) (.block 0 (.rangeF (Z 13) [14] (.reg [oo 9 (.box (.con (.agg [i6 0,i6 0]))),on (.store 2 (Z 9) (Z 14))]) (.block 1 (.seq (.reg [oo 15 (.load (some 7) (Z 3)),oo 16 (.load (some 2) (Z 9)),oo 17 (.call (.con (.fn 37 [] [])) [(Z 15),(Z 16)]),oo 10 (.box (.con (.nils))),on (.store 1 (Z 10) (Z 17))]) (.seq (.reg [oo 18 (.load (some 7) (Z 4)),oo 19 (.call (.con (.fn 36 [] [])) [(Z 18)])]) (.block 2 (.rangeF (Z 19) [20] (.reg [oo 11 (.box (.con (.agg [i6 0,i6 0]))),on (.store 2 (Z 11) (Z 20))]) (.block 3 (.seq (.dreg 5 0 [oo 21 (.load none (Z 10)),oo 22 (.load (some 7) (Z 4)),oo 23 (.load (some 2) (Z 11)),oo 24 (.call (.con (.fn 37 [] [])) [(Z 22),(Z 23)]),oo 25 (.load none (Z 5)),oo 26 (.call (.con (.fn 38 [] [])) [(Z 21),(Z 24),(Z 25)])]) (.cond (Z 26) (.reg [on (.store 1 (Z 7) (.con (.bool true)))]) (.reg [on (.store 1 (Z 8) (.con (.bool true)))])))))))))))) (.seq (.block 4 (.seq (.reg [oo 28 (.load none (Z 8)),oo 29 (.un .not (Z 28)),oo 27 (.mov (Z 29))]) (.cond (Z 27) (.seq (.reg [oo 6 (.mov (.con (i6 1)))]) .ret) (.seq (.reg [oo 31 (.load none (Z 7)),oo 32 (.un .not (Z 31)),oo 30 (.mov (Z 32))]) (.cond (Z 30) (.seq (.reg [oo 6 (.mov (.con (i6 2)))]) .ret) .skip))))) (.seq (.reg [oo 6 (.mov (.con (i6 3)))]) .ret)))))⟩
theorem comp21 : compFn Tryd.prog 21 = some F21:=by kernel_rfl
def F22 : AFn:=⟨3,15,[.tmp 6],(.seq (.reg [oo 6 (.mov (.con (.bool false)))]) (.seq (.reg [oo 7 (.mov (Z 0)),oo 8 (.mov (Z 1)),oo 9 (.bin .geq (Z 7) (Z 8)),oo 10 (.mov (Z 9)),⟨some 11,.mov (Z 0),some (10,true)⟩,⟨some 12,.mov (Z 2),some (10,true)⟩,⟨some 13,.bin .leq (Z 11) (Z 12),some (10,true)⟩,oo 14 (.pick (Z 10) (Z 13) (.con (.bool false))),oo 6 (.mov (Z 14))]) .ret))⟩
theorem comp22 : compFn Tryd.prog 22 = some F22:=by kernel_rfl
def F23 : AFn:=⟨2,38,[.cell 4 (some 720)],(.seq (.reg [oo 4 (.box (.con (.agg (List.replicate 720 (.bool false)))))]) (.seq (.reg [oo 10 (.build (List.replicate 720 (.bool false)) []),oo 5 (.box (.con (.agg (List.replicate 720 (.bool false))))),on (.store 720 (Z 5) (Z 10))]) (.seq (.seq (.reg [oo 11 (.mov (Z 0)),oo 12 (.len false (Z 11)),oo 13 (.mov (.con (i6 0)))]) (.block 0 (.loop (.seq (.reg [oo 14 (.bin .lss (Z 13) (Z 12))]) (.seq (.cond (Z 14) .skip (.exit 0)) (.seq (.block 1 (.seq (.reg [oo 15 (.iaddr (Z 11) (Z 13) 7 none),oo 16 (.load (some 7) (Z 15)),oo 7 (.box (.con (.agg [i6 0,.nils,i6 0,i6 0,i6 0,i6 0,.nils]))),on (.store 7 (Z 7) (Z 16))]) (.seq (.reg [oo 17 (.load (some 7) (Z 7)),oo 18 (.faddr (Z 7) 0),oo 19 (.faddr (Z 18) 2),oo 20 (.load (some 2) (Z 19)),oo 21 (.call (.con (.fn 37 [] [])) [(Z 17),(Z 20)]),oo 22 (.len false (Z 21)),oo 23 (.mov (.con (i6 0)))]) (.block 2 (.loop (.seq (.reg [oo 24 (.bin .lss (Z 23) (Z 22))]) (.seq (.cond (Z 24) .skip (.exit 2)) (.seq (.block 3 (.seq (.reg [oo 25 (.iaddr (Z 21) (Z 23) 4 none),oo 26 (.load (some 4) (Z 25)),oo 9 (.box (.con (.agg [i6 0,i6 0,i6 0,i6 0]))),on (.store 4 (Z 9) (Z 26))]) (.seq (.reg [oo 27 (.faddr (Z 9) 2),oo 28 (.load none (Z 27)),oo 29 (.mov (Z 1)),oo 30 (.bin .eql (Z 28) (Z 29))]) (.cond (Z 30) (.reg [oo 31 (.load (some 720) (Z 5)),oo 32 (.faddr (Z 9) 0),oo 33 (.load (some 2) (Z 32)),oo 34 (.call (.con (.fn 39 [] [])) [(Z 31),(Z 33)]),on (.store 720 (Z 5) (Z 34))]) .skip)))) (.reg [oo 35 (.bin .add (Z 23) (.con (i6 1))),oo 23 (.mov (Z 35))]))))))))) (.reg [oo 36 (.bin .add (Z 13) (.con (i6 1))),oo 13 (.mov (Z 36))]))))))) (.seq (.reg [oo 37 (.load (some 720) (Z 5)),on (.store 720 (Z 4) (Z 37))]) .ret))))⟩
theorem comp23 : compFn Tryd.prog 23 = some F23:=by kernel_rfl
def F24 : AFn:=⟨1,26,[.tmp 2,.tmp 3],(.seq (.reg [oo 1 (.box (Z 0)),oo 2 (.mov (.con (i6 0))),oo 3 (.mov (.con (i6 0)))]) (.seq (.reg [oo 4 (.mov (.con (i6 0)))]) (.seq (.seq (.reg [oo 7 (.load (some 720) (Z 1)),oo 8 (.mov (.con (i6 0)))]) (.block 0 (.loop (.seq (.reg [oo 9 (.bin .lss (Z 8) (.con (i6 720)))]) (.seq (.cond (Z 9) .skip (.exit 0)) (.seq (.block 1 (.seq (.reg [oo 10 (.mov (Z 8)),oo 11 (.aidx (Z 7) (Z 8) 720 1 none),oo 5 (.mov (Z 10)),oo 6 (.mov (Z 11))]) (.seq (.reg [oo 12 (.mov (Z 4)),oo 13 (.bin .add (Z 12) (.con (i6 1))),oo 4 (.mov (Z 13))]) (.seq (.seq (.reg [oo 14 (.mov (Z 6))]) (.cond (Z 14) (.reg [oo 4 (.mov (.con (i6 0)))]) .skip)) (.seq (.reg [oo 15 (.mov (Z 4)),oo 16 (.mov (Z 3)),oo 17 (.bin .gtr (Z 15) (Z 16))]) (.cond (Z 17) (.reg [oo 18 (.mov (Z 5)),oo 19 (.mov (Z 4)),oo 20 (.bin .sub (Z 18) (Z 19)),oo 21 (.bin .add (Z 20) (.con (i6 1))),oo 22 (.mov (Z 4)),oo 2 (.mov (Z 21)),oo 3 (.mov (Z 22))]) .skip)))))) (.reg [oo 23 (.bin .add (Z 8) (.con (i6 1))),oo 8 (.mov (Z 23))]))))))) (.seq (.reg [oo 24 (.mov (Z 2)),oo 25 (.mov (Z 3)),oo 2 (.mov (Z 24)),oo 3 (.mov (Z 25))]) .ret))))⟩
theorem comp24 : compFn Tryd.prog 24 = some F24:=by kernel_rfl
def F25 : AFn:=⟨2,45,[.tmp 4,.tmp 5],(.seq (.reg [oo 2 (.box (Z 0)),oo 4 (.mov (.con (.nils))),oo 5 (.mov (.con (i6 0)))]) (.seq (.reg [oo 14 (.load (some 6) (Z 2)),oo 15 (.mov (Z 1)),oo 16 (.call (.con (.fn 20 [] [])) [(Z 14),(Z 15)]),oo 13 (.mov (Z 16)),oo 17 (.ext (Z 13) 0),oo 18 (.ext (Z 13) 1),oo 6 (.mov (Z 17)),oo 7 (.mov (Z 18))]) (.seq (.seq (.reg [oo 19 (.mov (Z 7)),oo 20 (.bin .neq (Z 19) (.con (i6 0)))]) (.cond (Z 20) (.seq (.reg [oo 21 (.mov (Z 7)),oo 4 (.mov (.con (.nils))),oo 5 (.mov (Z 21))]) .ret) .skip)) (.seq (.reg [oo 22 (.load (some 6) (Z 2)),oo 23 (.mov (Z 6)),oo 24 (.call (.con (.fn 40 [] [])) [(Z 22),(Z 23)]),oo 8 (.box (.con (.agg [.nils,.nils,.nils,i6 0,i6 0,.nils,.nils,.nils]))),on (.store 8 (Z 8) (Z 24))]) (.seq (.reg [oo 9 (.mov (.con (.int .u64 0)))]) (.seq (.reg [oo 10 (.mov (.con (.nils)))]) (.seq (.seq (.reg [oo 25 (.mov (Z 6)),oo 26 (.len false (Z 25)),oo 27 (.mov (.con (i6 0)))]) (.block 0 (.loop (.seq (.reg [oo 28 (.bin .lss (Z 27) (Z 26))]) (.seq (.cond (Z 28) .skip (.exit 0)) (.seq (.block 1 (.seq (.reg [oo 29 (.mov (Z 27)),oo 11 (.mov (Z 29))]) (.seq (.reg [oo 30 (.load (some 8) (Z 8)),oo 31 (.mov (Z 11)),oo 32 (.mov (Z 9)),oo 33 (.call (.con (.fn 41 [] [])) [(Z 30),(Z 31),(Z 32)]),oo 12 (.mov (Z 33))]) (.seq (.seq (.reg [oo 34 (.mov (Z 12)),oo 35 (.bin .eql (Z 34) (.con (i6 0)))]) (.cond (Z 35) (.reg [oo 36 (.mov (Z 9)),oo 37 (.mov (Z 11)),oo 38 (.call (.con (.fn 42 [] [])) [(Z 36),(Z 37)]),oo 9 (.mov (Z 38))]) .skip)) (.reg [oo 39 (.mov (Z 10)),oo 40 (.mov (Z 12)),oo 41 (.bsl 1 false [i6 0] 1 [(0,(Z 40))]),oo 42 (.app (Z 39) (Z 41) 1 8 [i6 0]),oo 10 (.mov (Z 42))]))))) (.reg [oo 43 (.bin .add (Z 27) (.con (i6 1))),oo 27 (.mov (Z 43))]))))))) (.seq (.reg [oo 44 (.mov (Z 10)),oo 4 (.mov (Z 44)),oo 5 (.mov (.con (i6 0)))]) .ret))))))))⟩
theorem comp25 : compFn Tryd.prog 25 = some F25:=by kernel_rfl
def F26 : AFn:=⟨0,9,[.cell 0 (some 6)],(.seq (.reg [oo 0 (.box (.con (.agg [.nils,.nils,.nils,i6 0,i6 0,.nils])))]) (.seq (.reg [oo 1 (.bsl 1 false [i6 0] 3 [(0,(.con (i6 110))),(1,(.con (i6 80))),(2,(.con (i6 50)))]),oo 2 (.build [i6 0,i6 0] [(0,1,(.con (i6 0))),(1,1,(.con (i6 1)))]),oo 3 (.build [i6 0,i6 0] [(0,1,(.con (i6 1))),(1,1,(.con (i6 2)))]),oo 4 (.build [i6 0,i6 0] [(0,1,(.con (i6 0))),(1,1,(.con (i6 2)))]),oo 5 (.bsl 2 true [i6 0,i6 0] 3 [(0,(Z 2)),(1,(Z 3)),(2,(Z 4))]),oo 6 (.build [.nils,.nils,.nils,i6 0] [(0,1,(Z 1)),(1,1,(Z 5)),(3,1,(.con (i6 6)))]),oo 7 (.bsl 1 false [i6 0] 3 [(0,(.con (i6 590))),(1,(.con (i6 500))),(2,(.con (i6 0)))]),oo 8 (.build [.nils,.nils,.nils,i6 0,i6 0,.nils] [(0,4,(Z 6)),(4,1,(.con (i6 5))),(5,1,(Z 7))]),on (.store 6 (Z 0) (Z 8))]) .ret))⟩
theorem comp26 : compFn Tryd.prog 26 = some F26:=by kernel_rfl
def F27 : AFn:=⟨0,12,[.tmp 0],(.seq (.reg [oo 0 (.mov (.con (.nils)))]) (.seq (.reg [oo 1 (.bsl 1 false [i6 0] 2 [(0,(.con (i6 0))),(1,(.con (i6 1)))]),oo 2 (.call (.con (.fn 43 [] [])) [(.con (i6 100)),(.con (i6 110))]),oo 3 (.build [i6 0,.nils,i6 0,i6 0,i6 0,i6 0] [(1,1,(Z 1)),(2,2,(Z 2)),(4,1,(.con (i6 20))),(5,1,(.con (i6 50)))]),oo 4 (.bsl 1 false [i6 0] 1 [(0,(.con (i6 1)))]),oo 5 (.call (.con (.fn 43 [] [])) [(.con (i6 120)),(.con (i6 120))]),oo 6 (.build [i6 0,.nils,i6 0,i6 0,i6 0,i6 0] [(0,1,(.con (i6 2))),(1,1,(Z 4)),(2,2,(Z 5)),(4,1,(.con (i6 30))),(5,1,(.con (i6 40)))]),oo 7 (.call (.con (.fn 43 [] [])) [(.con (i6 300)),(.con (i6 300))]),oo 8 (.build [i6 0,.nils,i6 0,i6 0,i6 0,i6 0] [(0,1,(.con (i6 1))),(2,2,(Z 7)),(4,1,(.con (i6 10))),(5,1,(.con (i6 90)))]),oo 9 (.call (.con (.fn 43 [] [])) [(.con (i6 650)),(.con (i6 650))]),oo 10 (.build [i6 0,.nils,i6 0,i6 0,i6 0,i6 0] [(2,2,(Z 9)),(4,1,(.con (i6 10))),(5,1,(.con (i6 1)))]),oo 11 (.bsl 6 true [i6 0,.nils,i6 0,i6 0,i6 0,i6 0] 4 [(0,(Z 3)),(1,(Z 6)),(2,(Z 8)),(3,(Z 10))]),oo 0 (.mov (Z 11))]) .ret))⟩
theorem comp27 : compFn Tryd.prog 27 = some F27:=by kernel_rfl
def F28 : AFn:=⟨1,12,[.cell 2 (some 6)],(.seq (.reg [oo 2 (.box (.con (.agg [i6 0,.nils,i6 0,i6 0,i6 0,i6 0])))]) (.seq (.reg [oo 4 (.call (.con (.fn 27 [] [])) []),oo 5 (.iaddr (Z 4) (.con (i6 1)) 6 none),oo 6 (.load (some 6) (Z 5)),oo 3 (.box (.con (.agg [i6 0,.nils,i6 0,i6 0,i6 0,i6 0]))),on (.store 6 (Z 3) (Z 6))]) (.seq (.reg [oo 7 (.mov (Z 0)),oo 8 (.mov (Z 0)),oo 9 (.call (.con (.fn 43 [] [])) [(Z 7),(Z 8)]),oo 10 (.faddr (Z 3) 2),on (.store 2 (Z 10) (Z 9))]) (.seq (.reg [oo 11 (.load (some 6) (Z 3)),on (.store 6 (Z 2) (Z 11))]) .ret))))⟩
theorem comp28 : compFn Tryd.prog 28 = some F28:=by kernel_rfl
def F29 : AFn:=⟨2,26,[.tmp 4],(.seq (.reg [oo 4 (.mov (.con (.bool false)))]) (.seq (.seq (.reg [oo 6 (.mov (Z 0)),oo 7 (.len false (Z 6)),oo 8 (.mov (Z 1)),oo 9 (.len false (Z 8)),oo 10 (.bin .neq (Z 7) (Z 9))]) (.cond (Z 10) (.seq (.reg [oo 4 (.mov (.con (.bool false)))]) .ret) .skip)) (.seq (.seq (.reg [oo 5 (.mov (.con (i6 0)))]) (.block 0 (.loop (.seq (.seq (.reg [oo 11 (.mov (Z 5)),oo 12 (.mov (Z 0)),oo 13 (.len false (Z 12)),oo 14 (.bin .lss (Z 11) (Z 13))]) (.cond (Z 14) .skip (.exit 0))) (.seq (.block 1 (.seq (.dreg 8 0 [oo 17 (.mov (Z 0)),oo 18 (.mov (Z 5)),oo 19 (.iaddr (Z 17) (Z 18) 1 none),oo 20 (.load none (Z 19)),oo 21 (.mov (Z 1)),oo 22 (.mov (Z 5)),oo 23 (.iaddr (Z 21) (Z 22) 1 none),oo 24 (.load none (Z 23)),oo 25 (.bin .neq (Z 20) (Z 24))]) (.cond (Z 25) (.seq (.reg [oo 4 (.mov (.con (.bool false)))]) .ret) .skip))) (.reg [oo 15 (.mov (Z 5)),oo 16 (.bin .add (Z 15) (.con (i6 1))),oo 5 (.mov (Z 16))])))))) (.seq (.reg [oo 4 (.mov (.con (.bool true)))]) .ret))))⟩
theorem comp29 : compFn Tryd.prog 29 = some F29:=by kernel_rfl
def F30 : AFn:=⟨2,16,[.tmp 4],(.seq (.reg [oo 4 (.mov (.con (i6 0)))]) (.seq (.seq (.reg [oo 5 (.mov (Z 1)),oo 6 (.bin .lss (Z 5) (.con (i6 2)))]) (.cond (Z 6) (.seq (.reg [oo 4 (.mov (.con (i6 0)))]) .ret) .skip)) (.seq (.reg [oo 7 (.mov (Z 0)),oo 8 (.mov (Z 1)),oo 9 (.bin .rem (Z 7) (Z 8)),oo 0 (.mov (Z 9))]) (.seq (.seq (.reg [oo 10 (.mov (Z 0)),oo 11 (.bin .lss (Z 10) (.con (i6 0)))]) (.cond (Z 11) (.reg [oo 12 (.mov (Z 0)),oo 13 (.mov (Z 1)),oo 14 (.bin .add (Z 12) (Z 13)),oo 0 (.mov (Z 14))]) .skip)) (.seq (.reg [oo 15 (.mov (Z 0)),oo 4 (.mov (Z 15))]) .ret)))))⟩
theorem comp30 : compFn Tryd.prog 30 = some F30:=by kernel_rfl
def F31 : AFn:=⟨3,36,[.cell 6 (some 2)],(.seq (.reg [oo 6 (.box (.con (.agg [i6 0,i6 0])))]) (.seq (.reg [oo 8 (.mov (Z 0)),oo 9 (.mov (Z 1)),oo 10 (.mov (Z 2)),oo 11 (.call (.con (.fn 16 [] [])) [(Z 8),(Z 9),(Z 10)]),oo 7 (.mov (Z 11))]) (.seq (.seq (.reg [oo 12 (.mov (Z 0)),oo 13 (.call (.con (.fn 10 [] [])) [(Z 12),(.con (i6 3))])]) (.block 0 (.seq (.reg [oo 15 (.bin .eql (Z 13) (.con (i6 0))),oo 14 (.mov (Z 15))]) (.cond (Z 14) (.seq (.reg [oo 16 (.mov (Z 7)),oo 17 (.mov (Z 7)),oo 18 (.build [i6 0,i6 0] [(0,1,(Z 16)),(1,1,(Z 17))]),on (.store 2 (Z 6) (Z 18))]) .ret) (.seq (.reg [oo 20 (.bin .eql (Z 13) (.con (i6 1))),oo 19 (.mov (Z 20))]) (.cond (Z 19) (.seq (.reg [oo 21 (.mov (Z 7)),oo 22 (.mov (Z 0)),oo 23 (.mov (Z 7)),oo 24 (.mov (Z 2)),oo 25 (.mov (Z 7)),oo 26 (.bin .add (Z 25) (.con (i6 3))),oo 27 (.mn (Z 24) (Z 26)),oo 28 (.call (.con (.fn 16 [] [])) [(Z 22),(Z 23),(Z 27)]),oo 29 (.build [i6 0,i6 0] [(0,1,(Z 21)),(1,1,(Z 28))]),on (.store 2 (Z 6) (Z 29))]) .ret) .skip)))))) (.seq (.reg [oo 30 (.mov (Z 7)),oo 31 (.mov (Z 0)),oo 32 (.mov (Z 7)),oo 33 (.mov (Z 2)),oo 34 (.call (.con (.fn 16 [] [])) [(Z 31),(Z 32),(Z 33)]),oo 35 (.build [i6 0,i6 0] [(0,1,(Z 30)),(1,1,(Z 34))]),on (.store 2 (Z 6) (Z 35))]) .ret))))⟩
theorem comp31 : compFn Tryd.prog 31 = some F31:=by kernel_rfl
def F32 : AFn:=⟨2,18,[.tmp 4],(.seq (.reg [oo 2 (.box (Z 0)),oo 4 (.mov (.con (i6 0)))]) (.seq (.seq (.reg [oo 5 (.mov (Z 1))]) (.block 0 (.seq (.reg [oo 7 (.faddr (Z 2) 0),oo 8 (.load none (Z 7)),oo 9 (.bin .eql (Z 5) (Z 8)),oo 6 (.mov (Z 9))]) (.cond (Z 6) (.seq (.reg [oo 10 (.faddr (Z 2) 1),oo 11 (.load none (Z 10)),oo 4 (.mov (Z 11))]) .ret) (.seq (.reg [oo 13 (.faddr (Z 2) 1),oo 14 (.load none (Z 13)),oo 15 (.bin .eql (Z 5) (Z 14)),oo 12 (.mov (Z 15))]) (.cond (Z 12) (.seq (.reg [oo 16 (.faddr (Z 2) 0),oo 17 (.load none (Z 16)),oo 4 (.mov (Z 17))]) .ret) .skip)))))) (.seq (.reg [oo 4 (.mov (.con (i6 (-1))))]) .ret)))⟩
theorem comp32 : compFn Tryd.prog 32 = some F32:=by kernel_rfl
def F33 : AFn:=⟨1,37,[.tmp 2],(.seq (.reg [oo 1 (.box (Z 0)),oo 2 (.mov (.con (i6 0)))]) (.seq (.seq (.reg [oo 6 (.faddr (Z 1) 0),oo 7 (.load (some 4) (Z 6)),oo 8 (.call (.con (.fn 44 [] [])) [(Z 7)]),oo 3 (.mov (Z 8))]) (.seq (.reg [oo 9 (.mov (Z 3)),oo 10 (.bin .neq (Z 9) (.con (i6 0)))]) (.cond (Z 10) (.seq (.reg [oo 11 (.mov (Z 3)),oo 2 (.mov (Z 11))]) .ret) .skip))) (.seq (.block 0 (.seq (.reg [oo 13 (.faddr (Z 1) 4),oo 14 (.load none (Z 13)),oo 15 (.call (.con (.fn 22 [] [])) [(Z 14),(.con (i6 0)),(.con (i6 120))]),oo 16 (.un .not (Z 15)),oo 12 (.mov (Z 16))]) (.cond (Z 12) (.seq (.reg [oo 2 (.mov (.con (i6 2)))]) .ret) (.seq (.reg [oo 18 (.faddr (Z 1) 5),oo 19 (.load none (Z 18)),oo 20 (.len false (Z 19)),oo 21 (.faddr (Z 1) 0),oo 22 (.faddr (Z 21) 0),oo 23 (.load none (Z 22)),oo 24 (.len false (Z 23)),oo 25 (.bin .neq (Z 20) (Z 24)),oo 17 (.mov (Z 25))]) (.cond (Z 17) (.seq (.reg [oo 2 (.mov (.con (i6 1)))]) .ret) .skip))))) (.seq (.seq (.reg [oo 26 (.faddr (Z 1) 5),oo 27 (.load none (Z 26)),oo 28 (.len false (Z 27)),oo 29 (.mov (.con (i6 0)))]) (.block 1 (.loop (.seq (.reg [oo 30 (.bin .lss (Z 29) (Z 28))]) (.seq (.cond (Z 30) .skip (.exit 1)) (.seq (.block 2 (.seq (.reg [oo 31 (.iaddr (Z 27) (Z 29) 1 none),oo 32 (.load none (Z 31)),oo 5 (.mov (Z 32))]) (.seq (.reg [oo 33 (.mov (Z 5)),oo 34 (.call (.con (.fn 22 [] [])) [(Z 33),(.con (i6 0)),(.con (i6 720))]),oo 35 (.un .not (Z 34))]) (.cond (Z 35) (.seq (.reg [oo 2 (.mov (.con (i6 2)))]) .ret) .skip)))) (.reg [oo 36 (.bin .add (Z 29) (.con (i6 1))),oo 29 (.mov (Z 36))]))))))) (.seq (.reg [oo 2 (.mov (.con (i6 0)))]) .ret)))))⟩
theorem comp33 : compFn Tryd.prog 33 = some F33:=by kernel_rfl
def F34 : AFn:=⟨2,67,[.tmp 4,.tmp 5],(.seq (.reg [oo 2 (.box (Z 0)),oo 3 (.box (Z 1)),oo 4 (.mov (.con (.nils))),oo 5 (.mov (.con (i6 0)))]) (.seq (.block 0 (.seq (.reg [oo 12 (.faddr (Z 3) 0),oo 13 (.load none (Z 12)),oo 14 (.faddr (Z 2) 0),oo 15 (.load none (Z 14)),oo 16 (.len false (Z 15)),oo 17 (.bin .sub (Z 16) (.con (i6 1))),oo 18 (.call (.con (.fn 22 [] [])) [(Z 13),(.con (i6 0)),(Z 17)]),oo 19 (.un .not (Z 18)),oo 11 (.mov (Z 19))]) (.cond (Z 11) (.seq (.reg [oo 4 (.mov (.con (.nils))),oo 5 (.mov (.con (i6 7)))]) .ret) (.seq (.reg [oo 21 (.faddr (Z 3) 1),oo 22 (.load none (Z 21)),oo 23 (.len false (Z 22)),oo 24 (.bin .gtr (Z 23) (.con (i6 12))),oo 20 (.mov (Z 24))]) (.cond (Z 20) (.seq (.reg [oo 4 (.mov (.con (.nils))),oo 5 (.mov (.con (i6 5)))]) .ret) .skip))))) (.seq (.reg [oo 25 (.faddr (Z 3) 0),oo 26 (.load none (Z 25)),oo 6 (.mov (Z 26))]) (.seq (.reg [oo 27 (.mov (Z 6)),oo 28 (.bsl 1 false [i6 0] 1 [(0,(Z 27))]),oo 7 (.mov (Z 28))]) (.seq (.seq (.reg [oo 29 (.faddr (Z 3) 1),oo 30 (.load none (Z 29)),oo 31 (.len false (Z 30)),oo 32 (.mov (.con (i6 0)))]) (.block 1 (.loop (.seq (.reg [oo 33 (.bin .lss (Z 32) (Z 31))]) (.seq (.cond (Z 33) .skip (.exit 1)) (.seq (.block 2 (.seq (.reg [oo 34 (.iaddr (Z 30) (Z 32) 1 none),oo 35 (.load none (Z 34)),oo 9 (.mov (Z 35))]) (.seq (.seq (.reg [oo 36 (.mov (Z 9)),oo 37 (.faddr (Z 2) 1),oo 38 (.load none (Z 37)),oo 39 (.len false (Z 38)),oo 40 (.bin .sub (Z 39) (.con (i6 1))),oo 41 (.call (.con (.fn 22 [] [])) [(Z 36),(.con (i6 0)),(Z 40)]),oo 42 (.un .not (Z 41))]) (.cond (Z 42) (.seq (.reg [oo 4 (.mov (.con (.nils))),oo 5 (.mov (.con (i6 7)))]) .ret) .skip)) (.seq (.reg [oo 43 (.faddr (Z 2) 1),oo 44 (.load none (Z 43)),oo 45 (.mov (Z 9)),oo 46 (.iaddr (Z 44) (Z 45) 2 none),oo 47 (.load (some 2) (Z 46)),oo 10 (.box (.con (.agg [i6 0,i6 0]))),on (.store 2 (Z 10) (Z 47))]) (.seq (.seq (.reg [oo 48 (.mov (Z 6))]) (.block 3 (.seq (.reg [oo 50 (.faddr (Z 10) 0),oo 51 (.load none (Z 50)),oo 52 (.bin .eql (Z 48) (Z 51)),oo 49 (.mov (Z 52))]) (.cond (Z 49) (.reg [oo 53 (.faddr (Z 10) 1),oo 54 (.load none (Z 53)),oo 6 (.mov (Z 54))]) (.seq (.reg [oo 56 (.faddr (Z 10) 1),oo 57 (.load none (Z 56)),oo 58 (.bin .eql (Z 48) (Z 57)),oo 55 (.mov (Z 58))]) (.cond (Z 55) (.reg [oo 59 (.faddr (Z 10) 0),oo 60 (.load none (Z 59)),oo 6 (.mov (Z 60))]) (.seq (.reg [oo 4 (.mov (.con (.nils))),oo 5 (.mov (.con (i6 1)))]) .ret))))))) (.reg [oo 61 (.mov (Z 7)),oo 62 (.mov (Z 6)),oo 63 (.bsl 1 false [i6 0] 1 [(0,(Z 62))]),oo 64 (.app (Z 61) (Z 63) 1 8 [i6 0]),oo 7 (.mov (Z 64))])))))) (.reg [oo 65 (.bin .add (Z 32) (.con (i6 1))),oo 32 (.mov (Z 65))]))))))) (.seq (.reg [oo 66 (.mov (Z 7)),oo 4 (.mov (Z 66)),oo 5 (.mov (.con (i6 0)))]) .ret))))))⟩
theorem comp34 : compFn Tryd.prog 34 = some F34:=by kernel_rfl
def F35 : AFn:=⟨1,53,[.tmp 2],(.seq (.reg [oo 1 (.box (Z 0)),oo 2 (.mov (.con (i6 0)))]) (.seq (.reg [oo 4 (.faddr (Z 1) 2),oo 5 (.load (some 2) (Z 4)),oo 3 (.box (.con (.agg [i6 0,i6 0]))),on (.store 2 (Z 3) (Z 5))]) (.seq (.block 0 (.seq (.reg [oo 7 (.faddr (Z 3) 0),oo 8 (.load none (Z 7)),oo 9 (.call (.con (.fn 22 [] [])) [(Z 8),(.con (i6 0)),(.con (i6 720))]),oo 10 (.un .not (Z 9)),oo 11 (.mov (Z 10)),⟨some 12,.faddr (Z 3) 1,some (11,false)⟩,⟨some 13,.load none (Z 12),some (11,false)⟩,⟨some 14,.call (.con (.fn 22 [] [])) [(Z 13),(.con (i6 0)),(.con (i6 720))],some (11,false)⟩,⟨some 15,.un .not (Z 14),some (11,false)⟩,oo 16 (.pick (Z 11) (.con (.bool true)) (Z 15)),oo 6 (.mov (Z 16))]) (.cond (Z 6) (.seq (.reg [oo 2 (.mov (.con (i6 2)))]) .ret) (.seq (.reg [oo 18 (.faddr (Z 3) 0),oo 19 (.load none (Z 18)),oo 20 (.faddr (Z 3) 1),oo 21 (.load none (Z 20)),oo 22 (.bin .gtr (Z 19) (Z 21)),oo 17 (.mov (Z 22))]) (.cond (Z 17) (.seq (.reg [oo 2 (.mov (.con (i6 9)))]) .ret) (.seq (.reg [oo 24 (.faddr (Z 3) 1),oo 25 (.load none (Z 24)),oo 26 (.faddr (Z 3) 0),oo 27 (.load none (Z 26)),oo 28 (.bin .sub (Z 25) (Z 27)),oo 29 (.bin .gtr (Z 28) (.con (i6 30))),oo 23 (.mov (Z 29))]) (.cond (Z 23) (.seq (.reg [oo 2 (.mov (.con (i6 2)))]) .ret) (.seq (.reg [oo 31 (.faddr (Z 1) 4),oo 32 (.load none (Z 31)),oo 33 (.call (.con (.fn 22 [] [])) [(Z 32),(.con (i6 1)),(.con (i6 120))]),oo 34 (.un .not (Z 33)),oo 35 (.mov (Z 34)),⟨some 36,.faddr (Z 1) 5,some (35,false)⟩,⟨some 37,.load none (Z 36),some (35,false)⟩,⟨some 38,.call (.con (.fn 22 [] [])) [(Z 37),(.con (i6 0)),(.con (i6 1000000))],some (35,false)⟩,⟨some 39,.un .not (Z 38),some (35,false)⟩,oo 40 (.pick (Z 35) (.con (.bool true)) (Z 39)),oo 30 (.mov (Z 40))]) (.cond (Z 30) (.seq (.reg [oo 2 (.mov (.con (i6 2)))]) .ret) (.seq (.reg [oo 42 (.faddr (Z 3) 1),oo 43 (.load none (Z 42)),oo 44 (.faddr (Z 1) 4),oo 45 (.load none (Z 44)),oo 46 (.faddr (Z 1) 1),oo 47 (.load none (Z 46)),oo 48 (.len false (Z 47)),oo 49 (.bin .add (Z 48) (.con (i6 1))),oo 50 (.bin .mul (Z 45) (Z 49)),oo 51 (.bin .add (Z 43) (Z 50)),oo 52 (.bin .gtr (Z 51) (.con (i6 720))),oo 41 (.mov (Z 52))]) (.cond (Z 41) (.seq (.reg [oo 2 (.mov (.con (i6 12)))]) .ret) .skip))))))))))) (.seq (.reg [oo 2 (.mov (.con (i6 0)))]) .ret))))⟩
theorem comp35 : compFn Tryd.prog 35 = some F35:=by kernel_rfl
def F36 : AFn:=⟨1,4,[.tmp 2],(.seq (.reg [oo 1 (.box (Z 0)),oo 2 (.mov (.con (.nilf)))]) (.seq (.reg [oo 3 (.mkfn 45 [] [(Z 1)]),oo 2 (.mov (Z 3))]) .ret))⟩
theorem comp36 : compFn Tryd.prog 36 = some F36:=by kernel_rfl
def F37 : AFn:=⟨2,59,[.tmp 4],(.seq (.reg [oo 2 (.box (Z 0)),oo 3 (.box (Z 1)),oo 4 (.mov (.con (.nils)))]) (.seq (.reg [oo 10 (.faddr (Z 2) 6),oo 11 (.load none (Z 10)),oo 12 (.len false (Z 11)),oo 13 (.mksl 4 true [i6 0,i6 0,i6 0,i6 0] 32 (.con (i6 0)) (Z 12)),oo 5 (.mov (Z 13))]) (.seq (.reg [oo 6 (.mov (.con (i6 (-1))))]) (.seq (.seq (.reg [oo 14 (.faddr (Z 2) 6),oo 15 (.load none (Z 14)),oo 16 (.len false (Z 15)),oo 17 (.mov (.con (i6 0)))]) (.block 0 (.loop (.seq (.reg [oo 18 (.bin .lss (Z 17) (Z 16))]) (.seq (.cond (Z 18) .skip (.exit 0)) (.seq (.block 1 (.seq (.reg [oo 19 (.mov (Z 17)),oo 20 (.iaddr (Z 15) (Z 17) 1 none),oo 21 (.load none (Z 20)),oo 7 (.mov (Z 19)),oo 8 (.mov (Z 21))]) (.seq (.reg [oo 22 (.faddr (Z 3) 0),oo 23 (.load none (Z 22)),oo 24 (.mov (Z 7)),oo 25 (.faddr (Z 2) 0),oo 26 (.faddr (Z 25) 4),oo 27 (.load none (Z 26)),oo 28 (.bin .mul (Z 24) (Z 27)),oo 29 (.bin .add (Z 23) (Z 28)),oo 30 (.faddr (Z 3) 1),oo 31 (.load none (Z 30)),oo 32 (.mov (Z 7)),oo 33 (.bin .add (Z 32) (.con (i6 1))),oo 34 (.faddr (Z 2) 0),oo 35 (.faddr (Z 34) 4),oo 36 (.load none (Z 35)),oo 37 (.bin .mul (Z 33) (Z 36)),oo 38 (.bin .add (Z 31) (Z 37)),oo 39 (.bin .sub (Z 38) (.con (i6 1))),oo 40 (.build [i6 0,i6 0] [(0,1,(Z 29)),(1,1,(Z 39))]),oo 9 (.box (.con (.agg [i6 0,i6 0]))),on (.store 2 (Z 9) (Z 40))]) (.seq (.seq (.reg [oo 41 (.mov (Z 7)),oo 42 (.bin .gtr (Z 41) (.con (i6 0)))]) (.cond (Z 42) (.reg [oo 43 (.faddr (Z 2) 0),oo 44 (.faddr (Z 43) 1),oo 45 (.load none (Z 44)),oo 46 (.mov (Z 7)),oo 47 (.bin .sub (Z 46) (.con (i6 1))),oo 48 (.iaddr (Z 45) (Z 47) 1 none),oo 49 (.load none (Z 48)),oo 6 (.mov (Z 49))]) .skip)) (.reg [oo 50 (.mov (Z 5)),oo 51 (.load (some 2) (Z 9)),oo 52 (.mov (Z 8)),oo 53 (.mov (Z 6)),oo 54 (.build [i6 0,i6 0,i6 0,i6 0] [(0,2,(Z 51)),(2,1,(Z 52)),(3,1,(Z 53))]),oo 55 (.bsl 4 true [i6 0,i6 0,i6 0,i6 0] 1 [(0,(Z 54))]),oo 56 (.app (Z 50) (Z 55) 4 32 [i6 0,i6 0,i6 0,i6 0]),oo 5 (.mov (Z 56))]))))) (.reg [oo 57 (.bin .add (Z 17) (.con (i6 1))),oo 17 (.mov (Z 57))]))))))) (.seq (.reg [oo 58 (.mov (Z 5)),oo 4 (.mov (Z 58))]) .ret)))))⟩
theorem comp37 : compFn Tryd.prog 37 = some F37:=by kernel_rfl
def F38 : AFn:=⟨3,10,[.tmp 6],(.seq (.reg [oo 4 (.box (Z 1)),oo 5 (.box (Z 2)),oo 6 (.mov (.con (.bool false)))]) (.seq (.reg [oo 7 (.mov (Z 0)),oo 8 (.mkfn 47 [] [(Z 4),(Z 5)]),oo 9 (.call (.con (.fn 46 [] [])) [(Z 7),(Z 8)]),oo 6 (.mov (Z 9))]) .ret))⟩
theorem comp38 : compFn Tryd.prog 38 = some F38:=by kernel_rfl
def F39 : AFn:=⟨2,17,[.cell 4 (some 720)],(.seq (.reg [oo 2 (.box (Z 0)),oo 3 (.box (Z 1)),oo 4 (.box (.con (.agg (List.replicate 720 (.bool false)))))]) (.seq (.seq (.reg [oo 6 (.faddr (Z 3) 0),oo 7 (.load none (Z 6)),oo 5 (.mov (Z 7))]) (.block 0 (.loop (.seq (.seq (.reg [oo 8 (.mov (Z 5)),oo 9 (.faddr (Z 3) 1),oo 10 (.load none (Z 9)),oo 11 (.bin .leq (Z 8) (Z 10))]) (.cond (Z 11) .skip (.exit 0))) (.seq (.block 1 (.reg [oo 14 (.mov (Z 5)),oo 15 (.iaddr (Z 2) (Z 14) 1 (some 720)),on (.store 1 (Z 15) (.con (.bool true)))])) (.reg [oo 12 (.mov (Z 5)),oo 13 (.bin .add (Z 12) (.con (i6 1))),oo 5 (.mov (Z 13))])))))) (.seq (.reg [oo 16 (.load (some 720) (Z 2)),on (.store 720 (Z 4) (Z 16))]) .ret)))⟩
theorem comp39 : compFn Tryd.prog 39 = some F39:=by kernel_rfl
def F40 : AFn:=⟨2,50,[.cell 4 (some 8)],(.seq (.reg [oo 2 (.box (Z 0)),oo 4 (.box (.con (.agg [.nils,.nils,.nils,i6 0,i6 0,.nils,.nils,.nils])))]) (.seq (.reg [oo 10 (.mov (Z 1)),oo 11 (.len false (Z 10)),oo 12 (.mksl 1 false [.int .u64 0] 8 (Z 11) (Z 11)),oo 5 (.mov (Z 12))]) (.seq (.seq (.reg [oo 13 (.mov (Z 1)),oo 14 (.len false (Z 13)),oo 15 (.mov (.con (i6 0)))]) (.block 0 (.loop (.seq (.reg [oo 16 (.bin .lss (Z 15) (Z 14))]) (.seq (.cond (Z 16) .skip (.exit 0)) (.seq (.block 1 (.seq (.reg [oo 17 (.mov (Z 15)),oo 18 (.iaddr (Z 13) (Z 15) 7 none),oo 19 (.load (some 7) (Z 18)),oo 7 (.box (.con (.agg [i6 0,.nils,i6 0,i6 0,i6 0,i6 0,.nils]))),oo 6 (.mov (Z 17)),on (.store 7 (Z 7) (Z 19))]) (.seq (.reg [oo 20 (.mov (Z 1)),oo 21 (.mov (Z 6)),oo 22 (.slc false 7 (Z 20) none (some (Z 21))),oo 23 (.len false (Z 22)),oo 24 (.mov (.con (i6 0)))]) (.block 2 (.loop (.seq (.reg [oo 25 (.bin .lss (Z 24) (Z 23))]) (.seq (.cond (Z 25) .skip (.exit 2)) (.seq (.block 3 (.seq (.reg [oo 26 (.mov (Z 24)),oo 27 (.iaddr (Z 22) (Z 24) 7 none),oo 28 (.load (some 7) (Z 27)),oo 9 (.box (.con (.agg [i6 0,.nils,i6 0,i6 0,i6 0,i6 0,.nils]))),oo 8 (.mov (Z 26)),on (.store 7 (Z 9) (Z 28))]) (.seq (.reg [oo 29 (.load (some 7) (Z 7)),oo 30 (.load (some 7) (Z 9)),oo 31 (.faddr (Z 2) 4),oo 32 (.load none (Z 31)),oo 33 (.call (.con (.fn 21 [] [])) [(Z 29),(Z 30),(Z 32)]),oo 34 (.bin .neq (Z 33) (.con (i6 2)))]) (.cond (Z 34) (.reg [oo 35 (.mov (Z 5)),oo 36 (.mov (Z 6)),oo 37 (.mov (Z 5)),oo 38 (.mov (Z 6)),oo 39 (.iaddr (Z 37) (Z 38) 1 none),oo 40 (.load none (Z 39)),oo 41 (.mov (Z 8)),oo 42 (.call (.con (.fn 42 [] [])) [(Z 40),(Z 41)]),oo 43 (.iaddr (Z 35) (Z 36) 1 none),on (.store 1 (Z 43) (Z 42))]) .skip)))) (.reg [oo 44 (.bin .add (Z 24) (.con (i6 1))),oo 24 (.mov (Z 44))]))))))))) (.reg [oo 45 (.bin .add (Z 15) (.con (i6 1))),oo 15 (.mov (Z 45))]))))))) (.seq (.reg [oo 46 (.load (some 6) (Z 2)),oo 47 (.mov (Z 1)),oo 48 (.mov (Z 5)),oo 49 (.build [.nils,.nils,.nils,i6 0,i6 0,.nils,.nils,.nils] [(0,6,(Z 46)),(6,1,(Z 47)),(7,1,(Z 48))]),on (.store 8 (Z 4) (Z 49))]) .ret))))⟩
theorem comp40 : compFn Tryd.prog 40 = some F40:=by kernel_rfl
def F41 : AFn:=⟨3,20,[.tmp 6],(.seq (.reg [oo 3 (.box (Z 0)),oo 6 (.mov (.con (i6 0)))]) (.seq (.reg [oo 8 (.load (some 8) (Z 3)),oo 9 (.mov (Z 1)),oo 10 (.mov (Z 2)),oo 11 (.build [.nils,.nils,.nils,i6 0,i6 0,.nils,.nils,.nils,i6 0,.int .u64 0] [(0,8,(Z 8)),(8,1,(Z 9)),(9,1,(Z 10))]),oo 7 (.box (.con (.agg [.nils,.nils,.nils,i6 0,i6 0,.nils,.nils,.nils,i6 0,.int .u64 0]))),on (.store 10 (Z 7) (Z 11))]) (.seq (.reg [oo 12 (.load (some 10) (Z 7)),oo 13 (.mkfn 51 [(Z 12)] []),oo 14 (.load (some 10) (Z 7)),oo 15 (.mkfn 52 [(Z 14)] []),oo 16 (.load (some 10) (Z 7)),oo 17 (.mkfn 53 [(Z 16)] []),oo 18 (.bsl 1 false [.nilf] 3 [(0,(Z 13)),(1,(Z 15)),(2,(Z 17))]),oo 19 (.call (.con (.fn 50 [] [])) [(Z 18)]),oo 6 (.mov (Z 19))]) .ret)))⟩
theorem comp41 : compFn Tryd.prog 41 = some F41:=by kernel_rfl
def F42 : AFn:=⟨2,9,[.tmp 4],(.seq (.reg [oo 4 (.mov (.con (.int .u64 0)))]) (.seq (.reg [oo 5 (.mov (Z 0)),oo 6 (.mov (Z 1)),oo 7 (.bin .shl (.con (.int .u64 1)) (Z 6)),oo 8 (.bin .or (Z 5) (Z 7)),oo 4 (.mov (Z 8))]) .ret))⟩
theorem comp42 : compFn Tryd.prog 42 = some F42:=by kernel_rfl
def F43 : AFn:=⟨2,8,[.cell 4 (some 2)],(.seq (.reg [oo 4 (.box (.con (.agg [i6 0,i6 0])))]) (.seq (.reg [oo 5 (.mov (Z 0)),oo 6 (.mov (Z 1)),oo 7 (.build [i6 0,i6 0] [(0,1,(Z 5)),(1,1,(Z 6))]),on (.store 2 (Z 4) (Z 7))]) .ret))⟩
theorem comp43 : compFn Tryd.prog 43 = some F43:=by kernel_rfl
def F44 : AFn:=⟨1,42,[.tmp 2],(.seq (.reg [oo 1 (.box (Z 0)),oo 2 (.mov (.con (i6 0)))]) (.seq (.seq (.reg [oo 8 (.load (some 4) (Z 1)),oo 9 (.call (.con (.fn 54 [] [])) [(Z 8)]),oo 3 (.mov (Z 9))]) (.seq (.reg [oo 10 (.mov (Z 3)),oo 11 (.bin .neq (Z 10) (.con (i6 0)))]) (.cond (Z 11) (.seq (.reg [oo 12 (.mov (Z 3)),oo 2 (.mov (Z 12))]) .ret) .skip))) (.seq (.seq (.reg [oo 13 (.load (some 4) (Z 1)),oo 14 (.call (.con (.fn 55 [] [])) [(Z 13)]),oo 4 (.mov (Z 14))]) (.seq (.reg [oo 15 (.mov (Z 4)),oo 16 (.bin .neq (Z 15) (.con (i6 0)))]) (.cond (Z 16) (.seq (.reg [oo 17 (.mov (Z 4)),oo 2 (.mov (Z 17))]) .ret) .skip))) (.seq (.block 0 (.seq (.reg [oo 19 (.faddr (Z 1) 3),oo 20 (.load none (Z 19)),oo 21 (.call (.con (.fn 56 [] [])) [(Z 20),(.con (i6 0)),(.con (i6 96))]),oo 22 (.un .not (Z 21)),oo 18 (.mov (Z 22))]) (.cond (Z 18) (.seq (.reg [oo 2 (.mov (.con (i6 2)))]) .ret) (.seq (.reg [oo 24 (.faddr (Z 1) 2),oo 25 (.load none (Z 24)),oo 26 (.len false (Z 25)),oo 27 (.bin .gtr (Z 26) (.con (i6 12))),oo 23 (.mov (Z 27))]) (.cond (Z 23) (.seq (.reg [oo 2 (.mov (.con (i6 5)))]) .ret) .skip))))) (.seq (.seq (.reg [oo 28 (.faddr (Z 1) 2),oo 29 (.load none (Z 28)),oo 30 (.len false (Z 29)),oo 31 (.mov (.con (i6 0)))]) (.block 1 (.loop (.seq (.reg [oo 32 (.bin .lss (Z 31) (Z 30))]) (.seq (.cond (Z 32) .skip (.exit 1)) (.seq (.block 2 (.seq (.reg [oo 33 (.iaddr (Z 29) (Z 31) 7 none),oo 34 (.load (some 7) (Z 33)),oo 6 (.box (.con (.agg [i6 0,i6 0,i6 0,i6 0,i6 0,i6 0,.nils]))),on (.store 7 (Z 6) (Z 34))]) (.seq (.reg [oo 35 (.load (some 4) (Z 1)),oo 36 (.load (some 7) (Z 6)),oo 37 (.call (.con (.fn 57 [] [])) [(Z 35),(Z 36)]),oo 7 (.mov (Z 37))]) (.seq (.reg [oo 38 (.mov (Z 7)),oo 39 (.bin .neq (Z 38) (.con (i6 0)))]) (.cond (Z 39) (.seq (.reg [oo 40 (.mov (Z 7)),oo 2 (.mov (Z 40))]) .ret) .skip))))) (.reg [oo 41 (.bin .add (Z 31) (.con (i6 1))),oo 31 (.mov (Z 41))]))))))) (.seq (.reg [oo 2 (.mov (.con (i6 0)))]) .ret))))))⟩
theorem comp44 : compFn Tryd.prog 44 = some F44:=by kernel_rfl
def F45 : AFn:=⟨1,22,[],(.seq (.reg [oo 4 (.faddr (Z 1) 0),oo 5 (.faddr (Z 4) 2),oo 6 (.faddr (Z 5) 0),oo 7 (.load none (Z 6)),oo 3 (.mov (Z 7))]) (.block 0 (.loop (.seq (.seq (.reg [oo 8 (.mov (Z 3)),oo 9 (.faddr (Z 1) 0),oo 10 (.faddr (Z 9) 2),oo 11 (.faddr (Z 10) 1),oo 12 (.load none (Z 11)),oo 13 (.bin .leq (Z 8) (Z 12))]) (.cond (Z 13) .skip (.exit 0))) (.seq (.block 1 (.seq (.reg [oo 16 (.mov (Z 0)),oo 17 (.mov (Z 3)),oo 18 (.mov (Z 3)),oo 19 (.build [i6 0,i6 0] [(0,1,(Z 17)),(1,1,(Z 18))]),oo 20 (.call (Z 16) [(Z 19)]),oo 21 (.un .not (Z 20))]) (.cond (Z 21) .ret .skip))) (.reg [oo 14 (.mov (Z 3)),oo 15 (.bin .add (Z 14) (.con (i6 1))),oo 3 (.mov (Z 15))]))))))⟩
theorem comp45 : compFn Tryd.prog 45 = some F45:=by kernel_rfl
def F46 : AFn:=⟨2,9,[.tmp 4],(.seq (.reg [oo 4 (.mov (.con (.bool false)))]) (.seq (.reg [oo 5 (.mov (Z 0)),oo 6 (.mov (Z 1)),oo 7 (.call (.con (.fn 58 [] [])) [(Z 5),(Z 6)]),oo 8 (.bin .geq (Z 7) (.con (i6 0))),oo 4 (.mov (Z 8))]) .ret))⟩
theorem comp46 : compFn Tryd.prog 46 = some F46:=by kernel_rfl
def F47 : AFn:=⟨1,8,[.tmp 4],(.seq (.reg [oo 3 (.box (Z 0)),oo 4 (.mov (.con (.bool false)))]) (.seq (.reg [oo 5 (.load none (Z 1)),oo 6 (.mkfn 48 [] [(Z 3),(Z 2)]),oo 7 (.call (.con (.fn 46 [] [])) [(Z 5),(Z 6)]),oo 4 (.mov (Z 7))]) .ret))⟩
theorem comp47 : compFn Tryd.prog 47 = some F47:=by kernel_rfl
def F48 : AFn:=⟨1,9,[.tmp 4],(.seq (.reg [oo 3 (.box (Z 0)),oo 4 (.mov (.con (.bool false)))]) (.seq (.reg [oo 5 (.load (some 4) (Z 1)),oo 6 (.load (some 4) (Z 3)),oo 7 (.load none (Z 2)),oo 8 (.call (.con (.fn 49 [] [])) [(Z 5),(Z 6),(Z 7)]),oo 4 (.mov (Z 8))]) .ret))⟩
theorem comp48 : compFn Tryd.prog 48 = some F48:=by kernel_rfl
def F49 : AFn:=⟨3,59,[.tmp 6],(.seq (.reg [oo 3 (.box (Z 0)),oo 4 (.box (Z 1)),oo 6 (.mov (.con (.bool false)))]) (.seq (.reg [oo 9 (.faddr (Z 3) 2),oo 10 (.load none (Z 9)),oo 11 (.faddr (Z 4) 2),oo 12 (.load none (Z 11)),oo 13 (.bin .eql (Z 10) (Z 12)),oo 14 (.mov (Z 13)),⟨some 15,.faddr (Z 4) 0,some (14,true)⟩,⟨some 16,.faddr (Z 15) 0,some (14,true)⟩,⟨some 17,.load none (Z 16),some (14,true)⟩,⟨some 18,.faddr (Z 3) 0,some (14,true)⟩,⟨some 19,.faddr (Z 18) 1,some (14,true)⟩,⟨some 20,.load none (Z 19),some (14,true)⟩,⟨some 21,.bin .sub (Z 17) (Z 20),some (14,true)⟩,⟨some 22,.mov (Z 2),some (14,true)⟩,⟨some 23,.bin .leq (Z 21) (Z 22),some (14,true)⟩,oo 24 (.pick (Z 14) (Z 23) (.con (.bool false))),oo 25 (.mov (Z 24)),⟨some 26,.faddr (Z 3) 0,some (25,true)⟩,⟨some 27,.faddr (Z 26) 0,some (25,true)⟩,⟨some 28,.load none (Z 27),some (25,true)⟩,⟨some 29,.faddr (Z 4) 0,some (25,true)⟩,⟨some 30,.faddr (Z 29) 1,some (25,true)⟩,⟨some 31,.load none (Z 30),some (25,true)⟩,⟨some 32,.bin .sub (Z 28) (Z 31),some (25,true)⟩,⟨some 33,.mov (Z 2),some (25,true)⟩,⟨some 34,.bin .leq (Z 32) (Z 33),some (25,true)⟩,oo 35 (.pick (Z 25) (Z 34) (.con (.bool false))),oo 7 (.mov (Z 35))]) (.seq (.reg [oo 36 (.faddr (Z 3) 3),oo 37 (.load none (Z 36)),oo 38 (.faddr (Z 4) 3),oo 39 (.load none (Z 38)),oo 40 (.bin .eql (Z 37) (Z 39)),oo 41 (.mov (Z 40)),⟨some 42,.faddr (Z 3) 3,some (41,true)⟩,⟨some 43,.load none (Z 42),some (41,true)⟩,⟨some 44,.bin .neq (Z 43) (.con (i6 (-1))),some (41,true)⟩,oo 45 (.pick (Z 41) (Z 44) (.con (.bool false))),oo 46 (.mov (Z 45)),⟨some 47,.faddr (Z 3) 0,some (46,true)⟩,⟨some 48,.faddr (Z 47) 0,some (46,true)⟩,⟨some 49,.load none (Z 48),some (46,true)⟩,⟨some 50,.faddr (Z 4) 0,some (46,true)⟩,⟨some 51,.faddr (Z 50) 0,some (46,true)⟩,⟨some 52,.load none (Z 51),some (46,true)⟩,⟨some 53,.bin .eql (Z 49) (Z 52),some (46,true)⟩,oo 54 (.pick (Z 46) (Z 53) (.con (.bool false))),oo 8 (.mov (Z 54))]) (.seq (.reg [oo 55 (.mov (Z 7)),oo 56 (.mov (Z 55)),⟨some 57,.mov (Z 8),some (56,false)⟩,oo 58 (.pick (Z 56) (.con (.bool true)) (Z 57)),oo 6 (.mov (Z 58))]) .ret))))⟩
theorem comp49 : compFn Tryd.prog 49 = some F49:=by kernel_rfl
def F50 : AFn:=⟨1,18,[.tmp 2],(.seq (.reg [oo 2 (.mov (.con (i6 0)))]) (.seq (.seq (.reg [oo 6 (.mov (Z 0)),oo 7 (.len false (Z 6)),oo 8 (.mov (.con (i6 0)))]) (.block 0 (.loop (.seq (.reg [oo 9 (.bin .lss (Z 8) (Z 7))]) (.seq (.cond (Z 9) .skip (.exit 0)) (.seq (.block 1 (.seq (.reg [oo 10 (.iaddr (Z 6) (Z 8) 1 none),oo 11 (.load none (Z 10)),oo 4 (.mov (Z 11))]) (.seq (.reg [oo 12 (.mov (Z 4)),oo 13 (.call (Z 12) []),oo 5 (.mov (Z 13))]) (.seq (.reg [oo 14 (.mov (Z 5)),oo 15 (.bin .neq (Z 14) (.con (i6 0)))]) (.cond (Z 15) (.seq (.reg [oo 16 (.mov (Z 5)),oo 2 (.mov (Z 16))]) .ret) .skip))))) (.reg [oo 17 (.bin .add (Z 8) (.con (i6 1))),oo 8 (.mov (Z 17))]))))))) (.seq (.reg [oo 2 (.mov (.con (i6 0)))]) .ret)))⟩
theorem comp50 : compFn Tryd.prog 50 = some F50:=by kernel_rfl
def F51 : AFn:=⟨1,14,[.tmp 2],(.seq (.reg [oo 1 (.box (Z 0)),oo 2 (.mov (.con (i6 0)))]) (.seq (.seq (.dreg 9 0 [oo 3 (.faddr (Z 1) 0),oo 4 (.faddr (Z 3) 7),oo 5 (.load none (Z 4)),oo 6 (.faddr (Z 1) 8),oo 7 (.load none (Z 6)),oo 8 (.iaddr (Z 5) (Z 7) 1 none),oo 9 (.load none (Z 8)),oo 10 (.faddr (Z 1) 9),oo 11 (.load none (Z 10)),oo 12 (.bin .and (Z 9) (Z 11)),oo 13 (.bin .neq (Z 12) (.con (.int .u64 0)))]) (.cond (Z 13) (.seq (.reg [oo 2 (.mov (.con (i6 10)))]) .ret) .skip)) (.seq (.reg [oo 2 (.mov (.con (i6 0)))]) .ret)))⟩
theorem comp51 : compFn Tryd.prog 51 = some F51:=by kernel_rfl
def F52 : AFn:=⟨1,33,[.tmp 2],(.seq (.reg [oo 1 (.box (Z 0)),oo 2 (.mov (.con (i6 0)))]) (.seq (.reg [oo 6 (.faddr (Z 1) 0),oo 7 (.faddr (Z 6) 6),oo 8 (.load none (Z 7)),oo 9 (.faddr (Z 1) 8),oo 10 (.load none (Z 9)),oo 11 (.iaddr (Z 8) (Z 10) 7 none),oo 12 (.load (some 7) (Z 11)),oo 3 (.box (.con (.agg [i6 0,.nils,i6 0,i6 0,i6 0,i6 0,.nils]))),on (.store 7 (Z 3) (Z 12))]) (.seq (.seq (.reg [oo 13 (.faddr (Z 3) 6),oo 14 (.load none (Z 13)),oo 15 (.len false (Z 14)),oo 16 (.mov (.con (i6 0)))]) (.block 0 (.loop (.seq (.reg [oo 17 (.bin .lss (Z 16) (Z 15))]) (.seq (.cond (Z 17) .skip (.exit 0)) (.seq (.block 1 (.seq (.reg [oo 18 (.iaddr (Z 14) (Z 16) 1 none),oo 19 (.load none (Z 18)),oo 5 (.mov (Z 19))]) (.seq (.dreg 11 0 [oo 20 (.faddr (Z 3) 0),oo 21 (.faddr (Z 20) 5),oo 22 (.load none (Z 21)),oo 23 (.faddr (Z 1) 0),oo 24 (.faddr (Z 23) 0),oo 25 (.faddr (Z 24) 0),oo 26 (.faddr (Z 25) 0),oo 27 (.load none (Z 26)),oo 28 (.mov (Z 5)),oo 29 (.iaddr (Z 27) (Z 28) 1 none),oo 30 (.load none (Z 29)),oo 31 (.bin .gtr (Z 22) (Z 30))]) (.cond (Z 31) (.seq (.reg [oo 2 (.mov (.con (i6 13)))]) .ret) .skip)))) (.reg [oo 32 (.bin .add (Z 16) (.con (i6 1))),oo 16 (.mov (Z 32))]))))))) (.seq (.reg [oo 2 (.mov (.con (i6 0)))]) .ret))))⟩
theorem comp52 : compFn Tryd.prog 52 = some F52:=by kernel_rfl
def F53 : AFn:=⟨1,46,[.tmp 2],(.seq (.reg [oo 1 (.box (Z 0)),oo 2 (.mov (.con (i6 0)))]) (.seq (.reg [oo 3 (.box (.con (.nils)))]) (.seq (.seq (.reg [oo 9 (.faddr (Z 1) 9),oo 10 (.load none (Z 9)),oo 11 (.faddr (Z 1) 8),oo 12 (.load none (Z 11)),oo 13 (.call (.con (.fn 42 [] [])) [(Z 10),(Z 12)]),oo 14 (.call (.con (.fn 59 [] [])) [(Z 13)])]) (.block 0 (.rangeF (Z 14) [15] (.reg [oo 4 (.mov (Z 15))]) (.block 1 (.dreg 8 0 [oo 16 (.load none (Z 3)),oo 17 (.faddr (Z 1) 0),oo 18 (.faddr (Z 17) 6),oo 19 (.load none (Z 18)),oo 20 (.mov (Z 4)),oo 21 (.iaddr (Z 19) (Z 20) 7 none),oo 22 (.load (some 7) (Z 21)),oo 23 (.bsl 7 true [i6 0,.nils,i6 0,i6 0,i6 0,i6 0,.nils] 1 [(0,(Z 22))]),oo 24 (.app (Z 16) (Z 23) 7 88 [i6 0,.nils,i6 0,i6 0,i6 0,i6 0,.nils]),on (.store 1 (Z 3) (Z 24))]))))) (.seq (.seq (.reg [oo 25 (.faddr (Z 1) 0),oo 26 (.faddr (Z 25) 0),oo 27 (.faddr (Z 26) 5),oo 28 (.load none (Z 27)),oo 29 (.len false (Z 28)),oo 30 (.mov (.con (i6 0)))]) (.block 2 (.loop (.seq (.reg [oo 31 (.bin .lss (Z 30) (Z 29))]) (.seq (.cond (Z 31) .skip (.exit 2)) (.seq (.block 3 (.seq (.reg [oo 32 (.mov (Z 30)),oo 33 (.iaddr (Z 28) (Z 30) 1 none),oo 34 (.load none (Z 33)),oo 5 (.mov (Z 32)),oo 6 (.mov (Z 34))]) (.seq (.reg [oo 36 (.load none (Z 3)),oo 37 (.mov (Z 5)),oo 38 (.call (.con (.fn 23 [] [])) [(Z 36),(Z 37)]),oo 39 (.call (.con (.fn 24 [] [])) [(Z 38)]),oo 35 (.mov (Z 39)),oo 40 (.ext (Z 35) 0),oo 41 (.ext (Z 35) 1),oo 7 (.mov (Z 40)),oo 8 (.mov (Z 41))]) (.seq (.reg [oo 42 (.mov (Z 8)),oo 43 (.mov (Z 6)),oo 44 (.bin .lss (Z 42) (Z 43))]) (.cond (Z 44) (.seq (.reg [oo 2 (.mov (.con (i6 11)))]) .ret) .skip))))) (.reg [oo 45 (.bin .add (Z 30) (.con (i6 1))),oo 30 (.mov (Z 45))]))))))) (.seq (.reg [oo 2 (.mov (.con (i6 0)))]) .ret)))))⟩
theorem comp53 : compFn Tryd.prog 53 = some F53:=by kernel_rfl
def F54 : AFn:=⟨1,26,[.tmp 2],(.seq (.reg [oo 1 (.box (Z 0)),oo 2 (.mov (.con (i6 0)))]) (.seq (.block 0 (.seq (.reg [oo 6 (.faddr (Z 1) 0),oo 7 (.load none (Z 6)),oo 8 (.len false (Z 7)),oo 9 (.bin .eql (Z 8) (.con (i6 0))),oo 5 (.mov (Z 9))]) (.cond (Z 5) (.seq (.reg [oo 2 (.mov (.con (i6 4)))]) .ret) (.seq (.reg [oo 11 (.faddr (Z 1) 0),oo 12 (.load none (Z 11)),oo 13 (.len false (Z 12)),oo 14 (.bin .gtr (Z 13) (.con (i6 12))),oo 10 (.mov (Z 14))]) (.cond (Z 10) (.seq (.reg [oo 2 (.mov (.con (i6 5)))]) .ret) .skip))))) (.seq (.seq (.reg [oo 15 (.faddr (Z 1) 0),oo 16 (.load none (Z 15)),oo 17 (.len false (Z 16)),oo 18 (.mov (.con (i6 0)))]) (.block 1 (.loop (.seq (.reg [oo 19 (.bin .lss (Z 18) (Z 17))]) (.seq (.cond (Z 19) .skip (.exit 1)) (.seq (.block 2 (.seq (.reg [oo 20 (.iaddr (Z 16) (Z 18) 1 none),oo 21 (.load none (Z 20)),oo 4 (.mov (Z 21))]) (.seq (.reg [oo 22 (.mov (Z 4)),oo 23 (.call (.con (.fn 56 [] [])) [(Z 22),(.con (i6 0)),(.con (i6 1000000))]),oo 24 (.un .not (Z 23))]) (.cond (Z 24) (.seq (.reg [oo 2 (.mov (.con (i6 2)))]) .ret) .skip)))) (.reg [oo 25 (.bin .add (Z 18) (.con (i6 1))),oo 18 (.mov (Z 25))]))))))) (.seq (.reg [oo 2 (.mov (.con (i6 0)))]) .ret))))⟩
theorem comp54 : compFn Tryd.prog 54 = some F54:=by kernel_rfl
def F55 : AFn:=⟨1,36,[.tmp 2],(.seq (.reg [oo 1 (.box (Z 0)),oo 2 (.mov (.con (i6 0)))]) (.seq (.seq (.reg [oo 5 (.faddr (Z 1) 1),oo 6 (.load none (Z 5)),oo 7 (.len false (Z 6)),oo 8 (.bin .gtr (Z 7) (.con (i6 12)))]) (.cond (Z 8) (.seq (.reg [oo 2 (.mov (.con (i6 5)))]) .ret) .skip)) (.seq (.seq (.reg [oo 9 (.faddr (Z 1) 1),oo 10 (.load none (Z 9)),oo 11 (.len false (Z 10)),oo 12 (.mov (.con (i6 0)))]) (.block 0 (.loop (.seq (.reg [oo 13 (.bin .lss (Z 12) (Z 11))]) (.seq (.cond (Z 13) .skip (.exit 0)) (.seq (.block 1 (.seq (.reg [oo 14 (.iaddr (Z 10) (Z 12) 2 none),oo 15 (.load (some 2) (Z 14)),oo 4 (.box (.con (.agg [i6 0,i6 0]))),on (.store 2 (Z 4) (Z 15))]) (.block 2 (.seq (.reg [oo 17 (.load (some 4) (Z 1)),oo 18 (.faddr (Z 4) 0),oo 19 (.load none (Z 18)),oo 20 (.call (.con (.fn 60 [] [])) [(Z 17),(Z 19)]),oo 21 (.un .not (Z 20)),oo 22 (.mov (Z 21)),⟨some 23,.load (some 4) (Z 1),some (22,false)⟩,⟨some 24,.faddr (Z 4) 1,some (22,false)⟩,⟨some 25,.load none (Z 24),some (22,false)⟩,⟨some 26,.call (.con (.fn 60 [] [])) [(Z 23),(Z 25)],some (22,false)⟩,⟨some 27,.un .not (Z 26),some (22,false)⟩,oo 28 (.pick (Z 22) (.con (.bool true)) (Z 27)),oo 16 (.mov (Z 28))]) (.cond (Z 16) (.seq (.reg [oo 2 (.mov (.con (i6 7)))]) .ret) (.seq (.reg [oo 30 (.faddr (Z 4) 0),oo 31 (.load none (Z 30)),oo 32 (.faddr (Z 4) 1),oo 33 (.load none (Z 32)),oo 34 (.bin .eql (Z 31) (Z 33)),oo 29 (.mov (Z 34))]) (.cond (Z 29) (.seq (.reg [oo 2 (.mov (.con (i6 1)))]) .ret) .skip))))))) (.reg [oo 35 (.bin .add (Z 12) (.con (i6 1))),oo 12 (.mov (Z 35))]))))))) (.seq (.reg [oo 2 (.mov (.con (i6 0)))]) .ret))))⟩
theorem comp55 : compFn Tryd.prog 55 = some F55:=by kernel_rfl
def F56 : AFn:=⟨3,15,[.tmp 6],(.seq (.reg [oo 6 (.mov (.con (.bool false)))]) (.seq (.reg [oo 7 (.mov (Z 0)),oo 8 (.mov (Z 1)),oo 9 (.bin .geq (Z 7) (Z 8)),oo 10 (.mov (Z 9)),⟨some 11,.mov (Z 0),some (10,true)⟩,⟨some 12,.mov (Z 2),some (10,true)⟩,⟨some 13,.bin .leq (Z 11) (Z 12),some (10,true)⟩,oo 14 (.pick (Z 10) (Z 13) (.con (.bool false))),oo 6 (.mov (Z 14))]) .ret))⟩
theorem comp56 : compFn Tryd.prog 56 = some F56:=by kernel_rfl
def F57 : AFn:=⟨2,33,[.tmp 4],(.seq (.reg [oo 2 (.box (Z 0)),oo 3 (.box (Z 1)),oo 4 (.mov (.con (i6 0)))]) (.seq (.seq (.reg [oo 7 (.faddr (Z 3) 0),oo 8 (.load (some 2) (Z 7)),oo 9 (.call (.con (.fn 61 [] [])) [(Z 8),(.con (i6 1000000))]),oo 5 (.mov (Z 9))]) (.seq (.reg [oo 10 (.mov (Z 5)),oo 11 (.bin .neq (Z 10) (.con (i6 0)))]) (.cond (Z 11) (.seq (.reg [oo 12 (.mov (Z 5)),oo 4 (.mov (Z 12))]) .ret) .skip))) (.seq (.seq (.reg [oo 13 (.faddr (Z 3) 2),oo 14 (.load (some 2) (Z 13)),oo 15 (.call (.con (.fn 61 [] [])) [(Z 14),(.con (i6 96))]),oo 6 (.mov (Z 15))]) (.seq (.reg [oo 16 (.mov (Z 6)),oo 17 (.bin .neq (Z 16) (.con (i6 0)))]) (.cond (Z 17) (.seq (.reg [oo 18 (.mov (Z 6)),oo 4 (.mov (Z 18))]) .ret) .skip))) (.seq (.block 0 (.seq (.reg [oo 20 (.faddr (Z 3) 4),oo 21 (.load none (Z 20)),oo 22 (.call (.con (.fn 56 [] [])) [(Z 21),(.con (i6 1)),(.con (i6 96))]),oo 23 (.un .not (Z 22)),oo 19 (.mov (Z 23))]) (.cond (Z 19) (.seq (.reg [oo 4 (.mov (.con (i6 2)))]) .ret) (.seq (.reg [oo 25 (.load (some 4) (Z 2)),oo 26 (.faddr (Z 3) 5),oo 27 (.load none (Z 26)),oo 28 (.call (.con (.fn 60 [] [])) [(Z 25),(Z 27)]),oo 29 (.un .not (Z 28)),oo 24 (.mov (Z 29))]) (.cond (Z 24) (.seq (.reg [oo 4 (.mov (.con (i6 7)))]) .ret) .skip))))) (.seq (.reg [oo 30 (.load (some 4) (Z 2)),oo 31 (.load (some 7) (Z 3)),oo 32 (.call (.con (.fn 62 [] [])) [(Z 30),(Z 31)]),oo 4 (.mov (Z 32))]) .ret)))))⟩
theorem comp57 : compFn Tryd.prog 57 = some F57:=by kernel_rfl
def F58 : AFn:=⟨2,19,[.tmp 4],(.seq (.reg [oo 4 (.mov (.con (i6 0)))]) (.seq (.seq (.reg [oo 6 (.mov (Z 0)),oo 7 (.len false (Z 6)),oo 8 (.mov (.con (i6 0)))]) (.block 0 (.loop (.seq (.reg [oo 9 (.bin .lss (Z 8) (Z 7))]) (.seq (.cond (Z 9) .skip (.exit 0)) (.seq (.block 1 (.seq (.reg [oo 10 (.mov (Z 8)),oo 5 (.mov (Z 10))]) (.seq (.reg [oo 11 (.mov (Z 1)),oo 12 (.mov (Z 0)),oo 13 (.mov (Z 5)),oo 14 (.iaddr (Z 12) (Z 13) 4 none),oo 15 (.load (some 4) (Z 14)),oo 16 (.call (Z 11) [(Z 15)])]) (.cond (Z 16) (.seq (.reg [oo 17 (.mov (Z 5)),oo 4 (.mov (Z 17))]) .ret) .skip)))) (.reg [oo 18 (.bin .add (Z 8) (.con (i6 1))),oo 8 (.mov (Z 18))]))))))) (.seq (.reg [oo 4 (.mov (.con (i6 (-1))))]) .ret)))⟩
theorem comp58 : compFn Tryd.prog 58 = some F58:=by kernel_rfl
def F59 : AFn:=⟨1,4,[.tmp 2],(.seq (.reg [oo 1 (.box (Z 0)),oo 2 (.mov (.con (.nilf)))]) (.seq (.reg [oo 3 (.mkfn 63 [] [(Z 1)]),oo 2 (.mov (Z 3))]) .ret))⟩
theorem comp59 : compFn Tryd.prog 59 = some F59:=by kernel_rfl
def F60 : AFn:=⟨2,11,[.tmp 4],(.seq (.reg [oo 2 (.box (Z 0)),oo 4 (.mov (.con (.bool false)))]) (.seq (.reg [oo 5 (.mov (Z 1)),oo 6 (.faddr (Z 2) 0),oo 7 (.load none (Z 6)),oo 8 (.len false (Z 7)),oo 9 (.bin .sub (Z 8) (.con (i6 1))),oo 10 (.call (.con (.fn 56 [] [])) [(Z 5),(.con (i6 0)),(Z 9)]),oo 4 (.mov (Z 10))]) .ret))⟩
theorem comp60 : compFn Tryd.prog 60 = some F60:=by kernel_rfl
def F61 : AFn:=⟨2,24,[.tmp 4],(.seq (.reg [oo 2 (.box (Z 0)),oo 4 (.mov (.con (i6 0)))]) (.seq (.block 0 (.seq (.reg [oo 6 (.faddr (Z 2) 0),oo 7 (.load none (Z 6)),oo 8 (.mov (Z 1)),oo 9 (.call (.con (.fn 56 [] [])) [(Z 7),(.con (i6 0)),(Z 8)]),oo 10 (.un .not (Z 9)),oo 11 (.mov (Z 10)),⟨some 12,.faddr (Z 2) 1,some (11,false)⟩,⟨some 13,.load none (Z 12),some (11,false)⟩,⟨some 14,.mov (Z 1),some (11,false)⟩,⟨some 15,.call (.con (.fn 56 [] [])) [(Z 13),(.con (i6 0)),(Z 14)],some (11,false)⟩,⟨some 16,.un .not (Z 15),some (11,false)⟩,oo 17 (.pick (Z 11) (.con (.bool true)) (Z 16)),oo 5 (.mov (Z 17))]) (.cond (Z 5) (.seq (.reg [oo 4 (.mov (.con (i6 2)))]) .ret) (.seq (.reg [oo 19 (.faddr (Z 2) 0),oo 20 (.load none (Z 19)),oo 21 (.faddr (Z 2) 1),oo 22 (.load none (Z 21)),oo 23 (.bin .gtr (Z 20) (Z 22)),oo 18 (.mov (Z 23))]) (.cond (Z 18) (.seq (.reg [oo 4 (.mov (.con (i6 9)))]) .ret) .skip))))) (.seq (.reg [oo 4 (.mov (.con (i6 0)))]) .ret)))⟩
theorem comp61 : compFn Tryd.prog 61 = some F61:=by kernel_rfl
def F62 : AFn:=⟨2,45,[.tmp 4],(.seq (.reg [oo 2 (.box (Z 0)),oo 3 (.box (Z 1)),oo 4 (.mov (.con (i6 0)))]) (.seq (.seq (.reg [oo 9 (.faddr (Z 3) 6),oo 10 (.load none (Z 9)),oo 11 (.len false (Z 10)),oo 12 (.bin .gtr (Z 11) (.con (i6 12)))]) (.cond (Z 12) (.seq (.reg [oo 4 (.mov (.con (i6 5)))]) .ret) .skip)) (.seq (.reg [oo 13 (.faddr (Z 3) 5),oo 14 (.load none (Z 13)),oo 5 (.mov (Z 14))]) (.seq (.seq (.reg [oo 15 (.faddr (Z 3) 6),oo 16 (.load none (Z 15)),oo 17 (.len false (Z 16)),oo 18 (.mov (.con (i6 0)))]) (.block 0 (.loop (.seq (.reg [oo 19 (.bin .lss (Z 18) (Z 17))]) (.seq (.cond (Z 19) .skip (.exit 0)) (.seq (.block 1 (.seq (.reg [oo 20 (.iaddr (Z 16) (Z 18) 1 none),oo 21 (.load none (Z 20)),oo 7 (.mov (Z 21))]) (.seq (.seq (.reg [oo 22 (.load (some 4) (Z 2)),oo 23 (.mov (Z 7)),oo 24 (.call (.con (.fn 65 [] [])) [(Z 22),(Z 23)]),oo 25 (.un .not (Z 24))]) (.cond (Z 25) (.seq (.reg [oo 4 (.mov (.con (i6 7)))]) .ret) .skip)) (.seq (.reg [oo 26 (.faddr (Z 2) 1),oo 27 (.load none (Z 26)),oo 28 (.mov (Z 7)),oo 29 (.iaddr (Z 27) (Z 28) 2 none),oo 30 (.load (some 2) (Z 29)),oo 8 (.box (.con (.agg [i6 0,i6 0]))),on (.store 2 (Z 8) (Z 30))]) (.seq (.seq (.reg [oo 31 (.faddr (Z 8) 0),oo 32 (.load none (Z 31)),oo 33 (.mov (Z 5)),oo 34 (.bin .neq (Z 32) (Z 33)),oo 35 (.mov (Z 34)),⟨some 36,.faddr (Z 8) 1,some (35,true)⟩,⟨some 37,.load none (Z 36),some (35,true)⟩,⟨some 38,.mov (Z 5),some (35,true)⟩,⟨some 39,.bin .neq (Z 37) (Z 38),some (35,true)⟩,oo 40 (.pick (Z 35) (Z 39) (.con (.bool false)))]) (.cond (Z 40) (.seq (.reg [oo 4 (.mov (.con (i6 1)))]) .ret) .skip)) (.reg [oo 41 (.load (some 2) (Z 8)),oo 42 (.mov (Z 5)),oo 43 (.call (.con (.fn 66 [] [])) [(Z 41),(Z 42)]),oo 5 (.mov (Z 43))])))))) (.reg [oo 44 (.bin .add (Z 18) (.con (i6 1))),oo 18 (.mov (Z 44))]))))))) (.seq (.reg [oo 4 (.mov (.con (i6 0)))]) .ret)))))⟩
theorem comp62 : compFn Tryd.prog 62 = some F62:=by kernel_rfl
def F63 : AFn:=⟨1,16,[],(.seq (.reg [oo 4 (.load none (Z 1)),oo 3 (.mov (Z 4))]) (.block 0 (.loop (.seq (.seq (.reg [oo 5 (.mov (Z 3)),oo 6 (.bin .neq (Z 5) (.con (.int .u64 0)))]) (.cond (Z 6) .skip (.exit 0))) (.seq (.block 1 (.seq (.reg [oo 11 (.mov (Z 0)),oo 12 (.mov (Z 3)),oo 13 (.call (.con (.fn 64 [] [])) [(Z 12)]),oo 14 (.call (Z 11) [(Z 13)]),oo 15 (.un .not (Z 14))]) (.cond (Z 15) .ret .skip))) (.reg [oo 7 (.mov (Z 3)),oo 8 (.mov (Z 3)),oo 9 (.bin .sub (Z 8) (.con (.int .u64 1))),oo 10 (.bin .and (Z 7) (Z 9)),oo 3 (.mov (Z 10))]))))))⟩
theorem comp63 : compFn Tryd.prog 63 = some F63:=by kernel_rfl
def F64 : AFn:=⟨1,8,[.tmp 2],(.seq (.reg [oo 2 (.mov (.con (i6 0)))]) (.seq (.cond (.con (.bool false)) (.seq (.reg [oo 3 (.mov (Z 0)),oo 4 (.conv .u32 (Z 3)),oo 5 (.call (.con (.fn 67 [] [])) [(Z 4)]),oo 2 (.mov (Z 5))]) .ret) .skip) (.seq (.reg [oo 6 (.mov (Z 0)),oo 7 (.call (.con (.fn 68 [] [])) [(Z 6)]),oo 2 (.mov (Z 7))]) .ret)))⟩
theorem comp64 : compFn Tryd.prog 64 = some F64:=by kernel_rfl
def F65 : AFn:=⟨2,11,[.tmp 4],(.seq (.reg [oo 2 (.box (Z 0)),oo 4 (.mov (.con (.bool false)))]) (.seq (.reg [oo 5 (.mov (Z 1)),oo 6 (.faddr (Z 2) 1),oo 7 (.load none (Z 6)),oo 8 (.len false (Z 7)),oo 9 (.bin .sub (Z 8) (.con (i6 1))),oo 10 (.call (.con (.fn 56 [] [])) [(Z 5),(.con (i6 0)),(Z 9)]),oo 4 (.mov (Z 10))]) .ret))⟩
theorem comp65 : compFn Tryd.prog 65 = some F65:=by kernel_rfl
def F66 : AFn:=⟨2,13,[.tmp 4],(.seq (.reg [oo 2 (.box (Z 0)),oo 4 (.mov (.con (i6 0)))]) (.seq (.seq (.reg [oo 5 (.faddr (Z 2) 0),oo 6 (.load none (Z 5)),oo 7 (.mov (Z 1)),oo 8 (.bin .eql (Z 6) (Z 7))]) (.cond (Z 8) (.seq (.reg [oo 9 (.faddr (Z 2) 1),oo 10 (.load none (Z 9)),oo 4 (.mov (Z 10))]) .ret) .skip)) (.seq (.reg [oo 11 (.faddr (Z 2) 0),oo 12 (.load none (Z 11)),oo 4 (.mov (Z 12))]) .ret)))⟩
theorem comp66 : compFn Tryd.prog 66 = some F66:=by kernel_rfl
def F68 : AFn:=⟨1,14,[.tmp 2],(.seq (.reg [oo 2 (.mov (.con (i6 0)))]) (.seq (.seq (.reg [oo 3 (.mov (Z 0)),oo 4 (.bin .eql (Z 3) (.con (.int .u64 0)))]) (.cond (Z 4) (.seq (.reg [oo 2 (.mov (.con (i6 64)))]) .ret) .skip)) (.seq (.reg [oo 5 (.mov (Z 0)),oo 6 (.mov (Z 0)),oo 7 (.un .neg (Z 6)),oo 8 (.bin .and (Z 5) (Z 7)),oo 9 (.bin .mul (Z 8) (.con (.int .u64 285870213051353865))),oo 10 (.bin .shr (Z 9) (.con (.int .u64 58))),oo 11 (.iaddr (.con (.rop [.int .u8 0,.int .u8 1,.int .u8 56,.int .u8 2,.int .u8 57,.int .u8 49,.int .u8 28,.int .u8 3,.int .u8 61,.int .u8 58,.int .u8 42,.int .u8 50,.int .u8 38,.int .u8 29,.int .u8 17,.int .u8 4,.int .u8 62,.int .u8 47,.int .u8 59,.int .u8 36,.int .u8 45,.int .u8 43,.int .u8 51,.int .u8 22,.int .u8 53,.int .u8 39,.int .u8 33,.int .u8 30,.int .u8 24,.int .u8 18,.int .u8 12,.int .u8 5,.int .u8 63,.int .u8 55,.int .u8 48,.int .u8 27,.int .u8 60,.int .u8 41,.int .u8 37,.int .u8 16,.int .u8 46,.int .u8 35,.int .u8 44,.int .u8 21,.int .u8 52,.int .u8 32,.int .u8 23,.int .u8 11,.int .u8 54,.int .u8 26,.int .u8 40,.int .u8 15,.int .u8 34,.int .u8 20,.int .u8 31,.int .u8 10,.int .u8 25,.int .u8 14,.int .u8 19,.int .u8 9,.int .u8 13,.int .u8 8,.int .u8 7,.int .u8 6])) (Z 10) 1 (some 64)),oo 12 (.load none (Z 11)),oo 13 (.conv .i64 (Z 12)),oo 2 (.mov (Z 13))]) .ret)))⟩
theorem comp68 : compFn Tryd.prog 68 = some F68:=by kernel_rfl
end Go.Proofs.YthfpmjnmaifgaaaDoor
end
section
namespace Go.Proofs.YthfpmjnmaifgaaaDoor
open Go.RowKit
attribute [local simp] cleanL AV.clean cleanI cleanBo cleanSt cleanII plFB clFB faFB re re1 back back1 AV.plain AV.plain1 ren ren1 fadeS fadeV List.idxOf? List.findIdx? List.findIdx?.go
structure T_bk_Drum where
 beat_ : Int
 deriving Inhabited
def C_bk_Drum (x : T_bk_Drum) : List AV:=[.int .u64 x.beat_]
attribute [local simp] C_bk_Drum
def A_bk_Drum (x : T_bk_Drum) : AV:=.agg (C_bk_Drum x)
attribute [local simp] A_bk_Drum
theorem KC_bk_Drum (x : T_bk_Drum) : cleanL (C_bk_Drum x) = true:=by simp
theorem KA_bk_Drum (x : T_bk_Drum) : (A_bk_Drum x).clean = true:=KC_bk_Drum x
theorem KL_bk_Drum (l : List T_bk_Drum) : cleanL (l.map A_bk_Drum) = true:=cleanM KA_bk_Drum l
attribute [local simp] KL_bk_Drum
theorem KB_bk_Drum (x : T_bk_Drum) (n : Nat) (σ : List Nat) : (C_bk_Drum x).mapM (re n σ) = some (C_bk_Drum x):=by simp
def p_bk_Drum_hit (N : Nat) (d_1 : T_bk_Drum) : Option (Int × T_bk_Drum):=((some (Int.fdiv (IntKind.u64.wrap ((IntKind.u64.wrap (d_1.beat_ * 15074714826142052245)) + 11400714819323198485)) ((2 : Int) ^ (min (Int.toNat 32) (IntKind.bits .u64))))).bind fun n_2 => ((some (IntKind.u64.wrap (((BitVec.ofInt (IntKind.bits .u64) (IntKind.u64.wrap ((IntKind.u64.wrap (d_1.beat_ * 15074714826142052245)) + 11400714819323198485)) ^^^ BitVec.ofInt (IntKind.bits .u64) n_2).toNat : Nat) : Int))).bind fun n_3 => ((some (Int.fdiv (IntKind.u64.wrap (n_3 * 15760922415973212899)) ((2 : Int) ^ (min (Int.toNat 32) (IntKind.bits .u64))))).bind fun n_4 => ((some (IntKind.u64.wrap (((BitVec.ofInt (IntKind.bits .u64) (IntKind.u64.wrap (n_3 * 15760922415973212899)) ^^^ BitVec.ofInt (IntKind.bits .u64) n_4).toNat : Nat) : Int))).bind fun n_5 => ((some (Int.fdiv (IntKind.u64.wrap (n_5 * 15760922415973212899)) ((2 : Int) ^ (min (Int.toNat 32) (IntKind.bits .u64))))).bind fun n_6 => ((some (IntKind.u64.wrap (((BitVec.ofInt (IntKind.bits .u64) (IntKind.u64.wrap (n_5 * 15760922415973212899)) ^^^ BitVec.ofInt (IntKind.bits .u64) n_6).toNat : Nat) : Int))).bind fun n_7 => some (n_7,(⟨(IntKind.u64.wrap ((IntKind.u64.wrap (d_1.beat_ * 15074714826142052245)) + 11400714819323198485))⟩ : T_bk_Drum))))))))
def v_bk_Drum_hit (r : Int × T_bk_Drum) : AV:=.int .u64 r.1
attribute [local simp] v_bk_Drum_hit
theorem b_bk_Drum_hit (r : Int × T_bk_Drum) (n n2 m : Nat) : back n n2 m (v_bk_Drum_hit r) = some (v_bk_Drum_hit r):=by simp
theorem d_bk_Drum_hit (N : Nat) (d_1 : T_bk_Drum) (r : Int × T_bk_Drum) (h : p_bk_Drum_hit N d_1 = some r) : Does Tryd.prog 13 [.ptr 0 0] [(C_bk_Drum d_1)] fun v c => v = v_bk_Drum_hit r ∧ c = [(C_bk_Drum r.2)]:=by
 unfold p_bk_Drum_hit at h
 refine Does.ofL comp13 _ _ rfl rfl ?_
 refine Ex.seq (rg 1 [0] (mkS 31 [(0,.ptr 0 0)]) ⟨[(C_bk_Drum d_1)],[]⟩ ?_)
 refine Ex.seq (rg 10 [0] (mkS 31 [(0,.ptr 0 0)]) ⟨[[.int .u64 (IntKind.u64.wrap ((IntKind.u64.wrap (d_1.beat_ * 15074714826142052245)) + 11400714819323198485))]],[]⟩ ?_)
 refine Ex.seq (rg 5 [3] (mkS 31 [(3,.int .u64 (IntKind.u64.wrap ((IntKind.u64.wrap (d_1.beat_ * 15074714826142052245)) + 11400714819323198485)))]) ⟨[[.int .u64 (IntKind.u64.wrap ((IntKind.u64.wrap (d_1.beat_ * 15074714826142052245)) + 11400714819323198485))]],[]⟩ ?_)
 refine Ex.seq ?_
 obtain ⟨n_2,hn_2,h⟩:=bE h
 obtain ⟨n_3,hn_3,h⟩:=bE h
 refine regH 6 [(2,.eq (.int .u64 n_2)),(3,.eq (.int .u64 n_3))] [3] [AV.int .u64 (Int.fdiv (IntKind.u64.wrap ((IntKind.u64.wrap (d_1.beat_ * 15074714826142052245)) + 11400714819323198485)) ((2 : Int) ^ (min (Int.toNat 32) (IntKind.bits .u64)))) = AV.int .u64 n_2,AV.int .u64 (IntKind.u64.wrap (((BitVec.ofInt (IntKind.bits .u64) (IntKind.u64.wrap ((IntKind.u64.wrap (d_1.beat_ * 15074714826142052245)) + 11400714819323198485)) ^^^ BitVec.ofInt (IntKind.bits .u64) n_2).toNat : Nat) : Int)) = AV.int .u64 n_3] (mkS 31 [(3,.int .u64 (IntKind.u64.wrap (n_3 * 15760922415973212899)))]) (⟨[[.int .u64 (IntKind.u64.wrap ((IntKind.u64.wrap (d_1.beat_ * 15074714826142052245)) + 11400714819323198485))]],[]⟩) (by kernel_rfl) ⟨congrArg (AV.int .u64) (Option.some.inj hn_2),congrArg (AV.int .u64) (Option.some.inj hn_3),trivial⟩ rfl ?_
 refine Ex.seq ?_
 obtain ⟨n_4,hn_4,h⟩:=bE h
 obtain ⟨n_5,hn_5,h⟩:=bE h
 refine regH 6 [(2,.eq (.int .u64 n_4)),(3,.eq (.int .u64 n_5))] [3] [AV.int .u64 (Int.fdiv (IntKind.u64.wrap (n_3 * 15760922415973212899)) ((2 : Int) ^ (min (Int.toNat 32) (IntKind.bits .u64)))) = AV.int .u64 n_4,AV.int .u64 (IntKind.u64.wrap (((BitVec.ofInt (IntKind.bits .u64) (IntKind.u64.wrap (n_3 * 15760922415973212899)) ^^^ BitVec.ofInt (IntKind.bits .u64) n_4).toNat : Nat) : Int)) = AV.int .u64 n_5] (mkS 31 [(3,.int .u64 (IntKind.u64.wrap (n_5 * 15760922415973212899)))]) (⟨[[.int .u64 (IntKind.u64.wrap ((IntKind.u64.wrap (d_1.beat_ * 15074714826142052245)) + 11400714819323198485))]],[]⟩) (by kernel_rfl) ⟨congrArg (AV.int .u64) (Option.some.inj hn_4),congrArg (AV.int .u64) (Option.some.inj hn_5),trivial⟩ rfl ?_
 refine Ex.seq ?_
 obtain ⟨n_6,hn_6,h⟩:=bE h
 obtain ⟨n_7,hn_7,h⟩:=bE h
 refine regH 5 [(2,.eq (.int .u64 n_6)),(3,.eq (.int .u64 n_7))] [2] [AV.int .u64 (Int.fdiv (IntKind.u64.wrap (n_5 * 15760922415973212899)) ((2 : Int) ^ (min (Int.toNat 32) (IntKind.bits .u64)))) = AV.int .u64 n_6,AV.int .u64 (IntKind.u64.wrap (((BitVec.ofInt (IntKind.bits .u64) (IntKind.u64.wrap (n_5 * 15760922415973212899)) ^^^ BitVec.ofInt (IntKind.bits .u64) n_6).toNat : Nat) : Int)) = AV.int .u64 n_7] (mkS 31 [(2,.int .u64 n_7)]) (⟨[[.int .u64 (IntKind.u64.wrap ((IntKind.u64.wrap (d_1.beat_ * 15074714826142052245)) + 11400714819323198485))]],[]⟩) (by kernel_rfl) ⟨congrArg (AV.int .u64) (Option.some.inj hn_6),congrArg (AV.int .u64) (Option.some.inj hn_7),trivial⟩ rfl ?_
 refine Ex.ret ?_
 obtain rfl:=sJ h
 exact rt (.int .u64 n_7)
def p_bk_DrumOf (N : Nat) (nums_1 : (List Int)) : Option (T_bk_Drum):=(letJ (fun (b_2 : Int) => some (⟨b_2⟩ : T_bk_Drum)) (fun k_3 => (loop2 (fun rec_8 (i_6 : Int) (b_7 : Int) => (bif (decide (i_6 < ((nums_1.length : Nat) : Int))) then ((getI nums_1 i_6).bind fun x_12 => ((some (IntKind.u64.wrap (((BitVec.ofInt (IntKind.bits .u64) b_7 ^^^ BitVec.ofInt (IntKind.bits .u64) (IntKind.u64.wrap x_12)).toNat : Nat) : Int))).bind fun n_13 => ((p_bk_Drum_hit N (⟨n_13⟩ : T_bk_Drum)).bind fun r_14 => (rec_8 (IntKind.i64.wrap (i_6 + 1)) r_14.2.beat_)))) else (k_3 b_7))) N 0 2685821657736338717)))
def v_bk_DrumOf (r : T_bk_Drum) : AV:=.ptr 0 0
theorem a_bk_DrumOf (nums_1 : (List Int)) : [.sl (nums_1.map (AV.int .i64)) none].mapM (ren []) = some [.sl (nums_1.map (AV.int .i64)) none]:=by simp
theorem d_bk_DrumOf (N : Nat) (nums_1 : (List Int)) (r : T_bk_Drum) (h : p_bk_DrumOf N nums_1 = some r) : Does Tryd.prog 4 [.sl (nums_1.map (AV.int .i64)) none] [] fun v c => v = v_bk_DrumOf r ∧ c = [(C_bk_Drum r)]:=by
 unfold p_bk_DrumOf at h
 refine Does.ofP comp4 _ _ rfl rfl ?_
 refine Ex.seq (rg 1 [0] (mkS 29 [(0,.sl (nums_1.map (AV.int .i64)) none)]) ⟨[],[]⟩ ?_)
 refine Ex.seq (rg 3 [0,3] (mkS 29 [(0,.sl (nums_1.map (AV.int .i64)) none),(3,.ptr 0 0)]) ⟨[[.int .u64 2685821657736338717]],[]⟩ ?_)
 refine Ex.seq (Ex.seq ?_)
 refine rg 1 [0,3,4] (mkS 29 [(0,.sl (nums_1.map (AV.int .i64)) none),(3,.ptr 0 0),(4,i6 0)]) ⟨[[.int .u64 2685821657736338717]],[]⟩ ?_
 obtain ⟨K_4,hK_5,h⟩:=letE h
 refine Ex.blockJ (fun a S => ∃ (b_2 : Int),K_4 b_2 = some r ∧ a = mkS 29 [(3,.ptr 0 0)] ∧ S = ⟨[[.int .u64 b_2]],[]⟩) ?_ ?_
 ·obtain ⟨B_9,hB_10,h⟩:=loop2I h
  refine Ex.loopF (fun k a S => ∃ (i_6 : Int),∃ (b_7 : Int),loop2 B_9 k i_6 b_7 = some r ∧ a = mkS 29 [(0,.sl (nums_1.map (AV.int .i64)) none),(3,.ptr 0 0),(4,i6 i_6)] ∧ S = ⟨[[.int .u64 b_7]],[]⟩) N ⟨_,_,Forgets.refl _ _ _,0,2685821657736338717,h,rfl,rfl⟩ ?_
  rintro k a S ⟨i_6,b_7,h,rfl,rfl⟩
  cases k with
  | zero => exact (loop2Z h).elim
  | succ k =>
   replace h:=loop2S h hB_10
   refine Ex.seq (Ex.seq ?_)
   refine regH 4 [(2,.eq (i6 ((nums_1.length : Nat) : Int)))] [0,3,4,10] [AV.int .i64 (((nums_1.map (AV.int .i64)).length : Nat) : Int) = AV.int .i64 ((nums_1.length : Nat) : Int)] (mkS 29 [(0,.sl (nums_1.map (AV.int .i64)) none),(3,.ptr 0 0),(4,i6 i_6),(10,.bool (decide (i_6 < ((nums_1.length : Nat) : Int))))]) (⟨[[.int .u64 b_7]],[]⟩) (by kernel_rfl) ⟨lenM _ _,trivial⟩ rfl ?_
   rcases condI h with ⟨hc_11,h⟩ | ⟨hc_11,h⟩
   ·refine Ex.condT _ rfl hc_11 ?_
    refine Ex.skip ?_
    refine Ex.seq ?_
    refine Ex.blockK ?_
    refine Ex.seq ?_
    obtain ⟨x_12,hx_12,h⟩:=bE h
    obtain ⟨n_13,hn_13,h⟩:=bE h
    refine Ex.drawE (a1:=mkS 29 [(0,.sl (nums_1.map (AV.int .i64)) none),(3,.ptr 0 0),(4,i6 i_6),(10,.bool (decide (i_6 < ((nums_1.length : Nat) : Int)))),(13,.ptr 0 0),(14,.ptr 0 0),(15,.ptr 0 0),(16,.ptr 0 0),(17,.int .u64 b_7),(18,.sl (nums_1.map (AV.int .i64)) none),(19,i6 i_6),(20,.rop [i6 x_12]),(21,i6 x_12),(22,.int .u64 (IntKind.u64.wrap x_12)),(23,.int .u64 n_13)]) (noClr_ok _) [] [] [] ?_ ?_
    ·refine drS [0] 11 [(7, .rop [i6 x_12]), (10, .eq (.int .u64 n_13))] [LGet (nums_1.map (AV.int .i64)) i_6 1 [i6 x_12], AV.int .u64 (IntKind.u64.wrap (((BitVec.ofInt (IntKind.bits .u64) b_7 ^^^ BitVec.ofInt (IntKind.bits .u64) (IntKind.u64.wrap x_12)).toNat : Nat) : Int)) = AV.int .u64 n_13] (mkS 29 [(0, .sl (nums_1.map (AV.int .i64)) none), (3, .ptr 0 0), (4, i6 i_6), (10, .bool (decide (i_6 < ((nums_1.length : Nat) : Int)))), (13, .ptr 0 0), (14, .ptr 0 0), (15, .ptr 0 0), (16, .ptr 0 0), (17, .int .u64 b_7), (18, .sl (nums_1.map (AV.int .i64)) none), (19, i6 i_6), (20, .rop [i6 x_12]), (21, i6 x_12), (22, .int .u64 (IntKind.u64.wrap x_12)), (23, .int .u64 n_13)]) (by simp) (by kernel_rfl) ⟨LGet.of hx_12 rfl, congrArg (AV.int .u64) (Option.some.inj hn_13), trivial⟩ (by kernel_rfl) ?_
     exact DrO.nil rfl
    ·dsimp only [List.getLastD_cons,List.getLastD_nil]
     refine rn 3 [0,3,4] (mkS 29 [(0,.sl (nums_1.map (AV.int .i64)) none),(3,.ptr 0 0),(4,i6 i_6)]) ⟨[[.int .u64 n_13]],[]⟩ ?_
     refine ExO.nil ?_
     obtain ⟨r_14,hr_14,h⟩:=bE h
     refine Ex.reg (rn 1 [0,3,4,26] (mkS 29 [(0,.sl (nums_1.map (AV.int .i64)) none),(3,.ptr 0 0),(4,i6 i_6),(26,.ptr 0 0)]) ⟨[[.int .u64 n_13]],[]⟩ ?_)
     refine ExO.callL [0] [.ptr 0 0] rfl rfl (by simp; try rfl) rfl (by simp) (d_bk_Drum_hit N (⟨n_13⟩ : T_bk_Drum) r_14 hr_14) (b_bk_Drum_hit _ _ _ _) (by simp) ?_
     refine rn 0 [0,3,4] (mkS 29 [(0,.sl (nums_1.map (AV.int .i64)) none),(3,.ptr 0 0),(4,i6 i_6)]) ⟨[(C_bk_Drum r_14.2)],[]⟩ ?_
     refine ExO.nil ?_
     refine rg 3 [0,3,4] (mkS 29 [(0,.sl (nums_1.map (AV.int .i64)) none),(3,.ptr 0 0),(4,i6 (IntKind.i64.wrap (i_6 + 1)))]) ⟨[(C_bk_Drum r_14.2)],[]⟩ ?_
     dsimp only
     exact ⟨_,_,Forgets.refl _ _ _,k,Nat.lt_succ_self k,(IntKind.i64.wrap (i_6 + 1)),r_14.2.beat_,h,rfl,rfl⟩
   ·refine Ex.condF _ rfl hc_11 ?_
    refine Ex.exit ?_
    (try simp only [reduceCtorEq,AEx.ex.injEq,Nat.reduceEqDiff,if_true,if_false])
    exact ⟨_,_,forgetK [3],b_7,h,rfl,rfl⟩
 ·rintro a S ⟨b_2,h,rfl,rfl⟩
  subst hK_5
  refine Ex.seq (rg 2 [2] (mkS 29 [(2,.ptr 0 0)]) ⟨[[.int .u64 b_2]],[]⟩ ?_)
  refine Ex.ret ?_
  obtain rfl:=sJ h
  exact ⟨.inr rfl,.ptr 0 0,by kernel_rfl,by kernel_rfl,by kernel_rfl,[],by kernel_rfl⟩
def p_bk_Drum_Roll (N : Nat) (d_1 : T_bk_Drum) (n_2 : Int) : Option (Int × T_bk_Drum):=(bif (decide (n_2 < 2)) then some (0,d_1) else ((p_bk_Drum_hit N d_1).bind fun r_4 => ((nzI (IntKind.u64.wrap n_2)).bind fun u_5 => some ((IntKind.i64.wrap (Int.tmod (Int.fdiv r_4.1 ((2 : Int) ^ (min (Int.toNat 1) (IntKind.bits .u64)))) (IntKind.u64.wrap n_2))),r_4.2))))
def v_bk_Drum_Roll (r : Int × T_bk_Drum) : AV:=i6 r.1
attribute [local simp] v_bk_Drum_Roll
theorem b_bk_Drum_Roll (r : Int × T_bk_Drum) (n n2 m : Nat) : back n n2 m (v_bk_Drum_Roll r) = some (v_bk_Drum_Roll r):=by simp
theorem d_bk_Drum_Roll (N : Nat) (d_1 : T_bk_Drum) (n_2 : Int) (r : Int × T_bk_Drum) (h : p_bk_Drum_Roll N d_1 n_2 = some r) : Does Tryd.prog 10 [.ptr 0 0,i6 n_2] [(C_bk_Drum d_1)] fun v c => v = v_bk_Drum_Roll r ∧ c = [(C_bk_Drum r.2)]:=by
 unfold p_bk_Drum_Roll at h
 refine Does.ofL comp10 _ _ rfl rfl ?_
 refine Ex.seq (rg 1 [0,1] (mkS 14 [(0,.ptr 0 0),(1,i6 n_2)]) ⟨[(C_bk_Drum d_1)],[]⟩ ?_)
 refine Ex.seq (Ex.seq ?_)
 refine rg 2 [0,1,6] (mkS 14 [(0,.ptr 0 0),(1,i6 n_2),(6,.bool (decide (n_2 < 2)))]) ⟨[(C_bk_Drum d_1)],[]⟩ ?_
 rcases condI h with ⟨hc_3,h⟩ | ⟨hc_3,h⟩
 ·refine Ex.condT _ rfl hc_3 ?_
  refine Ex.seq (rg 1 [4] (mkS 14 [(4,i6 0)]) ⟨[(C_bk_Drum d_1)],[]⟩ ?_)
  refine Ex.ret ?_
  obtain rfl:=sJ h
  exact rt (i6 0)
 ·refine Ex.condF _ rfl hc_3 ?_
  refine Ex.skip ?_
  refine Ex.seq ?_
  obtain ⟨r_4,hr_4,h⟩:=bE h
  refine Ex.reg (rn 1 [1,7] (mkS 14 [(1,i6 n_2),(7,.ptr 0 0)]) ⟨[(C_bk_Drum d_1)],[]⟩ ?_)
  refine ExO.callL [0] [.ptr 0 0] rfl rfl (by simp; try rfl) rfl (by simp) (d_bk_Drum_hit N d_1 r_4 hr_4) (b_bk_Drum_hit _ _ _ _) (by simp) ?_
  obtain ⟨u_5,hu_5,h⟩:=bE h
  refine runH 6 [(3,.bin (.int .u64 (Int.tmod (Int.fdiv r_4.1 ((2 : Int) ^ (min (Int.toNat 1) (IntKind.bits .u64)))) (IntKind.u64.wrap n_2))))] [4] [binA .rem (.int .u64 (Int.fdiv r_4.1 ((2 : Int) ^ (min (Int.toNat 1) (IntKind.bits .u64))))) (.int .u64 (IntKind.u64.wrap n_2)) = some (.int .u64 (Int.tmod (Int.fdiv r_4.1 ((2 : Int) ^ (min (Int.toNat 1) (IntKind.bits .u64)))) (IntKind.u64.wrap n_2)))] (mkS 14 [(4,i6 (IntKind.i64.wrap (Int.tmod (Int.fdiv r_4.1 ((2 : Int) ^ (min (Int.toNat 1) (IntKind.bits .u64)))) (IntKind.u64.wrap n_2))))]) (⟨[(C_bk_Drum r_4.2)],[]⟩) (by kernel_rfl) ⟨binR hu_5,trivial⟩ ?_
  refine ExO.nil ?_
  refine Ex.ret ?_
  obtain rfl:=sJ h
  exact rt (i6 (IntKind.i64.wrap (Int.tmod (Int.fdiv r_4.1 ((2 : Int) ^ (min (Int.toNat 1) (IntKind.bits .u64)))) (IntKind.u64.wrap n_2))))
def p_bk_Drum_Mid (N : Nat) (d_1 : T_bk_Drum) (low_2 : Int) (high_3 : Int) : Option (Int × T_bk_Drum):=((p_bk_Drum_Roll N d_1 (IntKind.i64.wrap ((IntKind.i64.wrap (high_3 - low_2)) + 1))).bind fun r_4 => some ((IntKind.i64.wrap (low_2 + r_4.1)),r_4.2))
def v_bk_Drum_Mid (r : Int × T_bk_Drum) : AV:=i6 r.1
attribute [local simp] v_bk_Drum_Mid
theorem b_bk_Drum_Mid (r : Int × T_bk_Drum) (n n2 m : Nat) : back n n2 m (v_bk_Drum_Mid r) = some (v_bk_Drum_Mid r):=by simp
theorem d_bk_Drum_Mid (N : Nat) (d_1 : T_bk_Drum) (low_2 : Int) (high_3 : Int) (r : Int × T_bk_Drum) (h : p_bk_Drum_Mid N d_1 low_2 high_3 = some r) : Does Tryd.prog 16 [.ptr 0 0,i6 low_2,i6 high_3] [(C_bk_Drum d_1)] fun v c => v = v_bk_Drum_Mid r ∧ c = [(C_bk_Drum r.2)]:=by
 unfold p_bk_Drum_Mid at h
 refine Does.ofL comp16 _ _ rfl rfl ?_
 refine Ex.seq (rg 1 [0,1,2] (mkS 15 [(0,.ptr 0 0),(1,i6 low_2),(2,i6 high_3)]) ⟨[(C_bk_Drum d_1)],[]⟩ ?_)
 refine Ex.seq ?_
 obtain ⟨r_4,hr_4,h⟩:=bE h
 refine Ex.reg (rn 6 [7,8,12] (mkS 15 [(7,i6 low_2),(8,.ptr 0 0),(12,i6 (IntKind.i64.wrap ((IntKind.i64.wrap (high_3 - low_2)) + 1)))]) ⟨[(C_bk_Drum d_1)],[]⟩ ?_)
 refine ExO.callL [0] [.ptr 0 0,i6 (IntKind.i64.wrap ((IntKind.i64.wrap (high_3 - low_2)) + 1))] rfl rfl (by simp; try rfl) rfl (by simp) (d_bk_Drum_Roll N d_1 (IntKind.i64.wrap ((IntKind.i64.wrap (high_3 - low_2)) + 1)) r_4 hr_4) (b_bk_Drum_Roll _ _ _ _) (by simp) ?_
 refine rn 2 [6] (mkS 15 [(6,i6 (IntKind.i64.wrap (low_2 + r_4.1)))]) ⟨[(C_bk_Drum r_4.2)],[]⟩ ?_
 refine ExO.nil ?_
 refine Ex.ret ?_
 obtain rfl:=sJ h
 exact rt (i6 (IntKind.i64.wrap (low_2 + r_4.1)))
def p_bk_Drum_Any (N : Nat) (d_1 : T_bk_Drum) (l_2 : (List Int)) : Option (Int × T_bk_Drum):=(bif (((l_2.length : Nat) : Int) == 0) then some (0,d_1) else ((p_bk_Drum_Roll N d_1 ((l_2.length : Nat) : Int)).bind fun r_4 => ((getI l_2 r_4.1).bind fun x_5 => some (x_5,r_4.2))))
def v_bk_Drum_Any (r : Int × T_bk_Drum) : AV:=i6 r.1
attribute [local simp] v_bk_Drum_Any
theorem b_bk_Drum_Any (r : Int × T_bk_Drum) (n n2 m : Nat) : back n n2 m (v_bk_Drum_Any r) = some (v_bk_Drum_Any r):=by simp
theorem d_bk_Drum_Any (N : Nat) (d_1 : T_bk_Drum) (l_2 : (List Int)) (r : Int × T_bk_Drum) (h : p_bk_Drum_Any N d_1 l_2 = some r) : Does Tryd.prog 15 [.ptr 0 0,.sl (l_2.map (AV.int .i64)) none] [(C_bk_Drum d_1)] fun v c => v = v_bk_Drum_Any r ∧ c = [(C_bk_Drum r.2)]:=by
 unfold p_bk_Drum_Any at h
 refine Does.ofL comp15 _ _ rfl rfl ?_
 refine Ex.seq (rg 1 [0,1] (mkS 15 [(0,.ptr 0 0),(1,.sl (l_2.map (AV.int .i64)) none)]) ⟨[(C_bk_Drum d_1)],[]⟩ ?_)
 refine Ex.seq (Ex.seq ?_)
 refine regH 3 [(1,.eq (i6 ((l_2.length : Nat) : Int)))] [0,1,7] [AV.int .i64 (((l_2.map (AV.int .i64)).length : Nat) : Int) = AV.int .i64 ((l_2.length : Nat) : Int)] (mkS 15 [(0,.ptr 0 0),(1,.sl (l_2.map (AV.int .i64)) none),(7,.bool (((l_2.length : Nat) : Int) == 0))]) (⟨[(C_bk_Drum d_1)],[]⟩) (by kernel_rfl) ⟨lenM _ _,trivial⟩ rfl ?_
 rcases condI h with ⟨hc_3,h⟩ | ⟨hc_3,h⟩
 ·refine Ex.condT _ rfl hc_3 ?_
  refine Ex.seq (rg 1 [4] (mkS 15 [(4,i6 0)]) ⟨[(C_bk_Drum d_1)],[]⟩ ?_)
  refine Ex.ret ?_
  obtain rfl:=sJ h
  exact rt (i6 0)
 ·refine Ex.condF _ rfl hc_3 ?_
  refine Ex.skip ?_
  refine Ex.seq ?_
  obtain ⟨r_4,hr_4,h⟩:=bE h
  refine Ex.reg ?_
  refine runH 4 [(3,.eq (i6 ((l_2.length : Nat) : Int)))] [8,9,11] [AV.int .i64 (((l_2.map (AV.int .i64)).length : Nat) : Int) = AV.int .i64 ((l_2.length : Nat) : Int)] (mkS 15 [(8,.sl (l_2.map (AV.int .i64)) none),(9,.ptr 0 0),(11,i6 ((l_2.length : Nat) : Int))]) (⟨[(C_bk_Drum d_1)],[]⟩) (by kernel_rfl) ⟨lenM _ _,trivial⟩ ?_
  refine ExO.callL [0] [.ptr 0 0,i6 ((l_2.length : Nat) : Int)] rfl rfl (by simp; try rfl) rfl (by simp) (d_bk_Drum_Roll N d_1 ((l_2.length : Nat) : Int) r_4 hr_4) (b_bk_Drum_Roll _ _ _ _) (by simp) ?_
  obtain ⟨x_5,hx_5,h⟩:=bE h
  refine runH 3 [(0,.rop [i6 x_5])] [4] [LGet (l_2.map (AV.int .i64)) r_4.1 1 [i6 x_5]] (mkS 15 [(4,i6 x_5)]) (⟨[(C_bk_Drum r_4.2)],[]⟩) (by kernel_rfl) ⟨LGet.of hx_5 rfl,trivial⟩ ?_
  refine ExO.nil ?_
  refine Ex.ret ?_
  obtain rfl:=sJ h
  exact rt (i6 x_5)
structure T_Span where
 Lo : Int
 Hi : Int
 deriving Inhabited
def C_Span (x : T_Span) : List AV:=[i6 x.Lo,i6 x.Hi]
attribute [local simp] C_Span
def A_Span (x : T_Span) : AV:=.agg (C_Span x)
attribute [local simp] A_Span
theorem KC_Span (x : T_Span) : cleanL (C_Span x) = true:=by simp
theorem KA_Span (x : T_Span) : (A_Span x).clean = true:=KC_Span x
theorem KL_Span (l : List T_Span) : cleanL (l.map A_Span) = true:=cleanM KA_Span l
attribute [local simp] KL_Span
theorem KB_Span (x : T_Span) (n : Nat) (σ : List Nat) : (C_Span x).mapM (re n σ) = some (C_Span x):=by simp
def p_bk_Drum_Span (N : Nat) (d_1 : T_bk_Drum) (low_2 : Int) (high_3 : Int) : Option (T_Span × T_bk_Drum):=((p_bk_Drum_Mid N d_1 low_2 high_3).bind fun r_4 => ((p_bk_Drum_Roll N r_4.2 3).bind fun r_5 => (bif (r_5.1 == 0) then some ((⟨r_4.1,r_4.1⟩ : T_Span),r_5.2) else (bif (r_5.1 == 1) then ((p_bk_Drum_Mid N r_5.2 r_4.1 (if (IntKind.i64.wrap (r_4.1 + 3)) < high_3 then (IntKind.i64.wrap (r_4.1 + 3)) else high_3)).bind fun r_8 => some ((⟨r_4.1,r_8.1⟩ : T_Span),r_8.2)) else ((p_bk_Drum_Mid N r_5.2 r_4.1 high_3).bind fun r_9 => some ((⟨r_4.1,r_9.1⟩ : T_Span),r_9.2))))))
def v_bk_Drum_Span (r : T_Span × T_bk_Drum) : AV:=(A_Span r.1)
attribute [local simp] v_bk_Drum_Span
theorem b_bk_Drum_Span (r : T_Span × T_bk_Drum) (n n2 m : Nat) : back n n2 m (v_bk_Drum_Span r) = some (v_bk_Drum_Span r):=by simp
theorem d_bk_Drum_Span (N : Nat) (d_1 : T_bk_Drum) (low_2 : Int) (high_3 : Int) (r : T_Span × T_bk_Drum) (h : p_bk_Drum_Span N d_1 low_2 high_3 = some r) : Does Tryd.prog 31 [.ptr 0 0,i6 low_2,i6 high_3] [(C_bk_Drum d_1)] fun v c => v = v_bk_Drum_Span r ∧ c = [(C_bk_Drum r.2)]:=by
 unfold p_bk_Drum_Span at h
 refine Does.ofL comp31 _ _ rfl rfl ?_
 refine Ex.seq (rg 1 [0,1,2,6] (mkS 36 [(0,.ptr 0 0),(1,i6 low_2),(2,i6 high_3),(6,.ptr 1 0)]) ⟨[(C_bk_Drum d_1),[i6 0,i6 0]],[]⟩ ?_)
 refine Ex.seq ?_
 obtain ⟨r_4,hr_4,h⟩:=bE h
 refine Ex.reg (rn 3 [0,2,6,8,9,10] (mkS 36 [(0,.ptr 0 0),(2,i6 high_3),(6,.ptr 1 0),(8,.ptr 0 0),(9,i6 low_2),(10,i6 high_3)]) ⟨[(C_bk_Drum d_1),[i6 0,i6 0]],[]⟩ ?_)
 refine ExO.callL [0] [.ptr 0 0,i6 low_2,i6 high_3] rfl rfl (by simp; try rfl) rfl (by simp) (d_bk_Drum_Mid N d_1 low_2 high_3 r_4 hr_4) (b_bk_Drum_Mid _ _ _ _) (by simp) ?_
 refine rn 1 [0,2,6,7] (mkS 36 [(0,.ptr 0 0),(2,i6 high_3),(6,.ptr 1 0),(7,i6 r_4.1)]) ⟨[(C_bk_Drum r_4.2),[i6 0,i6 0]],[]⟩ ?_
 refine ExO.nil ?_
 refine Ex.seq (Ex.seq ?_)
 obtain ⟨r_5,hr_5,h⟩:=bE h
 refine Ex.reg (rn 1 [0,2,6,7,12] (mkS 36 [(0,.ptr 0 0),(2,i6 high_3),(6,.ptr 1 0),(7,i6 r_4.1),(12,.ptr 0 0)]) ⟨[(C_bk_Drum r_4.2),[i6 0,i6 0]],[]⟩ ?_)
 refine ExO.callL [0] [.ptr 0 0,i6 3] rfl rfl (by simp; try rfl) rfl (by simp) (d_bk_Drum_Roll N r_4.2 3 r_5 hr_5) (b_bk_Drum_Roll _ _ _ _) (by simp) ?_
 refine rn 0 [0,2,6,7,13] (mkS 36 [(0,.ptr 0 0),(2,i6 high_3),(6,.ptr 1 0),(7,i6 r_4.1),(13,i6 r_5.1)]) ⟨[(C_bk_Drum r_5.2),[i6 0,i6 0]],[]⟩ ?_
 refine ExO.nil ?_
 refine Ex.blockK ?_
 refine Ex.seq (rg 2 [0,2,6,7,13,14] (mkS 36 [(0,.ptr 0 0),(2,i6 high_3),(6,.ptr 1 0),(7,i6 r_4.1),(13,i6 r_5.1),(14,.bool (r_5.1 == 0))]) ⟨[(C_bk_Drum r_5.2),[i6 0,i6 0]],[]⟩ ?_)
 rcases condI h with ⟨hc_6,h⟩ | ⟨hc_6,h⟩
 ·refine Ex.condT _ rfl hc_6 ?_
  refine Ex.seq (rg 4 [6] (mkS 36 [(6,.ptr 1 0)]) ⟨[(C_bk_Drum r_5.2),[i6 r_4.1,i6 r_4.1]],[]⟩ ?_)
  refine Ex.ret ?_
  obtain rfl:=sJ h
  exact rt (.agg [i6 r_4.1,i6 r_4.1])
 ·refine Ex.condF _ rfl hc_6 ?_
  refine Ex.seq (rg 2 [0,2,6,7,19] (mkS 36 [(0,.ptr 0 0),(2,i6 high_3),(6,.ptr 1 0),(7,i6 r_4.1),(19,.bool (r_5.1 == 1))]) ⟨[(C_bk_Drum r_5.2),[i6 0,i6 0]],[]⟩ ?_)
  rcases condI h with ⟨hc_7,h⟩ | ⟨hc_7,h⟩
  ·refine Ex.condT _ rfl hc_7 ?_
   refine Ex.seq ?_
   obtain ⟨r_8,hr_8,h⟩:=bE h
   refine Ex.reg (rn 7 [6,21,22,23,27] (mkS 36 [(6,.ptr 1 0),(21,i6 r_4.1),(22,.ptr 0 0),(23,i6 r_4.1),(27,i6 (if (IntKind.i64.wrap (r_4.1 + 3)) < high_3 then (IntKind.i64.wrap (r_4.1 + 3)) else high_3))]) ⟨[(C_bk_Drum r_5.2),[i6 0,i6 0]],[]⟩ ?_)
   refine ExO.callL [0] [.ptr 0 0,i6 r_4.1,i6 (if (IntKind.i64.wrap (r_4.1 + 3)) < high_3 then (IntKind.i64.wrap (r_4.1 + 3)) else high_3)] rfl rfl (by simp; try rfl) rfl (by simp) (d_bk_Drum_Mid N r_5.2 r_4.1 (if (IntKind.i64.wrap (r_4.1 + 3)) < high_3 then (IntKind.i64.wrap (r_4.1 + 3)) else high_3) r_8 hr_8) (b_bk_Drum_Mid _ _ _ _) (by simp) ?_
   refine rn 2 [6] (mkS 36 [(6,.ptr 1 0)]) ⟨[(C_bk_Drum r_8.2),[i6 r_4.1,i6 r_8.1]],[]⟩ ?_
   refine ExO.nil ?_
   refine Ex.ret ?_
   obtain rfl:=sJ h
   exact rt (.agg [i6 r_4.1,i6 r_8.1])
  ·refine Ex.condF _ rfl hc_7 ?_
   refine Ex.skip ?_
   refine Ex.seq ?_
   obtain ⟨r_9,hr_9,h⟩:=bE h
   refine Ex.reg (rn 4 [6,30,31,32,33] (mkS 36 [(6,.ptr 1 0),(30,i6 r_4.1),(31,.ptr 0 0),(32,i6 r_4.1),(33,i6 high_3)]) ⟨[(C_bk_Drum r_5.2),[i6 0,i6 0]],[]⟩ ?_)
   refine ExO.callL [0] [.ptr 0 0,i6 r_4.1,i6 high_3] rfl rfl (by simp; try rfl) rfl (by simp) (d_bk_Drum_Mid N r_5.2 r_4.1 high_3 r_9 hr_9) (b_bk_Drum_Mid _ _ _ _) (by simp) ?_
   refine rn 2 [6] (mkS 36 [(6,.ptr 1 0)]) ⟨[(C_bk_Drum r_9.2),[i6 r_4.1,i6 r_9.1]],[]⟩ ?_
   refine ExO.nil ?_
   refine Ex.ret ?_
   obtain rfl:=sJ h
   exact rt (.agg [i6 r_4.1,i6 r_9.1])
def p_bk_Drum_Of (N : Nat) (d_1 : T_bk_Drum) (x_2 : T_Span) : Option (Int × T_bk_Drum):=((p_bk_Drum_Roll N d_1 4).bind fun r_3 => (bif (r_3.1 == 0) then some (x_2.Lo,r_3.2) else (bif (r_3.1 == 1) then some (x_2.Hi,r_3.2) else ((p_bk_Drum_Mid N r_3.2 x_2.Lo x_2.Hi).bind fun r_6 => some (r_6.1,r_6.2)))))
def v_bk_Drum_Of (r : Int × T_bk_Drum) : AV:=i6 r.1
attribute [local simp] v_bk_Drum_Of
theorem b_bk_Drum_Of (r : Int × T_bk_Drum) (n n2 m : Nat) : back n n2 m (v_bk_Drum_Of r) = some (v_bk_Drum_Of r):=by simp
theorem d_bk_Drum_Of (N : Nat) (d_1 : T_bk_Drum) (x_2 : T_Span) (r : Int × T_bk_Drum) (h : p_bk_Drum_Of N d_1 x_2 = some r) : Does Tryd.prog 19 [.ptr 0 0,(A_Span x_2)] [(C_bk_Drum d_1)] fun v c => v = v_bk_Drum_Of r ∧ c = [(C_bk_Drum r.2)]:=by
 unfold p_bk_Drum_Of at h
 refine Does.ofL comp19 _ _ rfl rfl ?_
 refine Ex.seq (rg 2 [0,3] (mkS 21 [(0,.ptr 0 0),(3,.ptr 1 0)]) ⟨[(C_bk_Drum d_1),(C_Span x_2)],[]⟩ ?_)
 refine Ex.seq (Ex.seq ?_)
 obtain ⟨r_3,hr_3,h⟩:=bE h
 refine Ex.reg (rn 1 [0,3,5] (mkS 21 [(0,.ptr 0 0),(3,.ptr 1 0),(5,.ptr 0 0)]) ⟨[(C_bk_Drum d_1),(C_Span x_2)],[]⟩ ?_)
 refine ExO.callL [0] [.ptr 0 0,i6 4] rfl rfl (by simp; try rfl) rfl (by simp) (d_bk_Drum_Roll N d_1 4 r_3 hr_3) (b_bk_Drum_Roll _ _ _ _) (by simp) ?_
 refine rn 0 [0,3,6] (mkS 21 [(0,.ptr 0 0),(3,.ptr 1 0),(6,i6 r_3.1)]) ⟨[(C_bk_Drum r_3.2),(C_Span x_2)],[]⟩ ?_
 refine ExO.nil ?_
 refine Ex.blockK ?_
 refine Ex.seq (rg 2 [0,3,6,7] (mkS 21 [(0,.ptr 0 0),(3,.ptr 1 0),(6,i6 r_3.1),(7,.bool (r_3.1 == 0))]) ⟨[(C_bk_Drum r_3.2),(C_Span x_2)],[]⟩ ?_)
 rcases condI h with ⟨hc_4,h⟩ | ⟨hc_4,h⟩
 ·refine Ex.condT _ rfl hc_4 ?_
  refine Ex.seq (rg 3 [4] (mkS 21 [(4,i6 x_2.Lo)]) ⟨[(C_bk_Drum r_3.2),(C_Span x_2)],[]⟩ ?_)
  refine Ex.ret ?_
  obtain rfl:=sJ h
  exact rt (i6 x_2.Lo)
 ·refine Ex.condF _ rfl hc_4 ?_
  refine Ex.seq (rg 2 [0,3,11] (mkS 21 [(0,.ptr 0 0),(3,.ptr 1 0),(11,.bool (r_3.1 == 1))]) ⟨[(C_bk_Drum r_3.2),(C_Span x_2)],[]⟩ ?_)
  rcases condI h with ⟨hc_5,h⟩ | ⟨hc_5,h⟩
  ·refine Ex.condT _ rfl hc_5 ?_
   refine Ex.seq (rg 3 [4] (mkS 21 [(4,i6 x_2.Hi)]) ⟨[(C_bk_Drum r_3.2),(C_Span x_2)],[]⟩ ?_)
   refine Ex.ret ?_
   obtain rfl:=sJ h
   exact rt (i6 x_2.Hi)
  ·refine Ex.condF _ rfl hc_5 ?_
   refine Ex.skip ?_
   refine Ex.seq ?_
   obtain ⟨r_6,hr_6,h⟩:=bE h
   refine Ex.reg (rn 5 [15,17,19] (mkS 21 [(15,.ptr 0 0),(17,i6 x_2.Lo),(19,i6 x_2.Hi)]) ⟨[(C_bk_Drum r_3.2),(C_Span x_2)],[]⟩ ?_)
   refine ExO.callL [0] [.ptr 0 0,i6 x_2.Lo,i6 x_2.Hi] rfl rfl (by simp; try rfl) rfl (by simp) (d_bk_Drum_Mid N r_3.2 x_2.Lo x_2.Hi r_6 hr_6) (b_bk_Drum_Mid _ _ _ _) (by simp) ?_
   refine rn 1 [4] (mkS 21 [(4,i6 r_6.1)]) ⟨[(C_bk_Drum r_6.2),(C_Span x_2)],[]⟩ ?_
   refine ExO.nil ?_
   refine Ex.ret ?_
   obtain rfl:=sJ h
   exact rt (i6 r_6.1)
def p_bk_Drum_Less (N : Nat) (d_1 : T_bk_Drum) (x_2 : T_Span) : Option (T_Span × T_bk_Drum):=((p_bk_Drum_Of N d_1 x_2).bind fun r_3 => ((p_bk_Drum_Of N r_3.2 x_2).bind fun r_5 => some ((⟨(if r_5.1 < r_3.1 then r_5.1 else r_3.1),(if r_5.1 > r_3.1 then r_5.1 else r_3.1)⟩ : T_Span),r_5.2)))
def v_bk_Drum_Less (r : T_Span × T_bk_Drum) : AV:=(A_Span r.1)
attribute [local simp] v_bk_Drum_Less
theorem b_bk_Drum_Less (r : T_Span × T_bk_Drum) (n n2 m : Nat) : back n n2 m (v_bk_Drum_Less r) = some (v_bk_Drum_Less r):=by simp
theorem d_bk_Drum_Less (N : Nat) (d_1 : T_bk_Drum) (x_2 : T_Span) (r : T_Span × T_bk_Drum) (h : p_bk_Drum_Less N d_1 x_2 = some r) : Does Tryd.prog 8 [.ptr 0 0,(A_Span x_2)] [(C_bk_Drum d_1)] fun v c => v = v_bk_Drum_Less r ∧ c = [(C_bk_Drum r.2)]:=by
 unfold p_bk_Drum_Less at h
 refine Does.ofL comp8 _ _ rfl rfl ?_
 refine Ex.seq (rg 2 [0,3,4] (mkS 20 [(0,.ptr 0 0),(3,.ptr 1 0),(4,.ptr 2 0)]) ⟨[(C_bk_Drum d_1),(C_Span x_2),[i6 0,i6 0]],[]⟩ ?_)
 refine Ex.seq ?_
 obtain ⟨r_3,hr_3,h⟩:=bE h
 have hT_4 : DoesA Tryd.prog [⟨19,[.ptr 0 0,(A_Span x_2)],[(C_bk_Drum d_1)],(v_bk_Drum_Of r_3),[(C_bk_Drum r_3.2)]⟩] ∧ ConsA [⟨19,[.ptr 0 0,(A_Span x_2)],[(C_bk_Drum d_1)],(v_bk_Drum_Of r_3),[(C_bk_Drum r_3.2)]⟩]:=⟨⟨(d_bk_Drum_Of N d_1 x_2 r_3 hr_3),rfl,trivial⟩,⟨trivial,trivial⟩⟩
 refine Ex.drawE (a1:=mkS 20 [(0,.ptr 0 0),(3,.ptr 1 0),(4,.ptr 2 0),(7,.ptr 0 0),(8,(A_Span x_2)),(9,i6 r_3.1),(10,.ptr 0 0),(11,(A_Span x_2))]) (tabO_ok hT_4.1) [] [] [⟨[(C_bk_Drum r_3.2),(C_Span x_2),[i6 0,i6 0]],[]⟩] ?_ ?_
 ·refine drS [1, 2] 2 [] [] (mkS 20 [(0, .ptr 0 0), (3, .ptr 1 0), (4, .ptr 2 0), (7, .ptr 0 0), (8, (A_Span x_2))]) (by simp) (by kernel_rfl) trivial (by kernel_rfl) ?_
  refine drB hT_4.2 0 _ [0] [.ptr 0 0,(A_Span x_2)] (v_bk_Drum_Of r_3) _ _ rfl rfl rfl rfl rfl rfl rfl rfl (by simp; try rfl) rfl (by simp) (b_bk_Drum_Of _ _ _ _) (by simp) rfl ?_
  refine drS [1,2] 2 [] [] (mkS 20 [(0,.ptr 0 0),(3,.ptr 1 0),(4,.ptr 2 0),(7,.ptr 0 0),(8,(A_Span x_2)),(9,i6 r_3.1),(10,.ptr 0 0),(11,(A_Span x_2))]) (by simp) (by kernel_rfl) trivial (by kernel_rfl) ?_
  exact DrO.nil rfl
 ·dsimp only [List.getLastD_cons,List.getLastD_nil]
  obtain ⟨r_5,hr_5,h⟩:=bE h
  refine ExO.callL [0] [.ptr 0 0,(A_Span x_2)] rfl rfl (by simp; try rfl) rfl (by simp) (d_bk_Drum_Of N r_3.2 x_2 r_5 hr_5) (b_bk_Drum_Of _ _ _ _) (by simp) ?_
  refine rn 2 [4,5,6] (mkS 20 [(4,.ptr 2 0),(5,i6 r_3.1),(6,i6 r_5.1)]) ⟨[(C_bk_Drum r_5.2),(C_Span x_2),[i6 0,i6 0]],[]⟩ ?_
  refine ExO.nil ?_
  refine Ex.seq (rg 8 [4] (mkS 20 [(4,.ptr 2 0)]) ⟨[(C_bk_Drum r_5.2),(C_Span x_2),[i6 (if r_5.1 < r_3.1 then r_5.1 else r_3.1),i6 (if r_5.1 > r_3.1 then r_5.1 else r_3.1)]],[]⟩ ?_)
  refine Ex.ret ?_
  obtain rfl:=sJ h
  exact rt (.agg [i6 (if r_5.1 < r_3.1 then r_5.1 else r_3.1),i6 (if r_5.1 > r_3.1 then r_5.1 else r_3.1)])
end Go.Proofs.YthfpmjnmaifgaaaDoor
end
section
namespace Go.Proofs.YthfpmjnmaifgaaaDoor
open Go.RowKit
theorem hit_p (N : Nat) (d : T_bk_Drum) : ∃ y d',p_bk_Drum_hit N d = some (y,d') ∧ 0 ≤ y ∧ y < 2 ^ 64:=by
 refine ⟨_,_,rfl,?_⟩
 exact wu64 _
theorem roll_p (N : Nat) (d : T_bk_Drum) (n : Int) (hn : n < 9223372036854775808) : ∃ r d',p_bk_Drum_Roll N d n = some (r,d') ∧ 0 ≤ r ∧ (n < 2 → r = 0) ∧ (2 ≤ n → r < n):=by
 unfold p_bk_Drum_Roll
 by_cases h2 : n < 2
 ·simp only [h2,decide_true,cond_true]
  exact ⟨0,d,rfl,by omega,fun _ => rfl,fun h => by omega⟩
 ·simp only [h2,decide_false,cond_false]
  obtain ⟨y,d',hy,h0,h1⟩:=hit_p N d
  have hu : IntKind.u64.wrap n = n:=wu64_id (by omega) (by omega)
  have hnz : n ≠ 0:=by omega
  rw [hy,hu]
  simp only [Option.bind_some,nzI,hnz,if_false]
  have hsh : Int.fdiv y ((2 : Int) ^ (min (Int.toNat 1) (IntKind.bits .u64))) = y / 2:=by
   have : (2 : Int) ^ (min (Int.toNat 1) (IntKind.bits .u64)) = 2:=rfl
   rw [this,Int.fdiv_eq_ediv_of_nonneg _ (by omega)]
  rw [hsh]
  have hd0 : 0 ≤ y / 2:=by omega
  have hm : Int.tmod (y / 2) n = (y / 2) % n:=Int.tmod_eq_emod_of_nonneg hd0
  have hm0 : 0 ≤ (y / 2) % n:=Int.emod_nonneg _ hnz
  have hm1 : (y / 2) % n < n:=Int.emod_lt_of_pos _ (by omega)
  rw [hm,w64 (x:=y / 2 % n) (by omega) (by omega)]
  exact ⟨_,d',rfl,hm0,fun h => False.elim h,fun _ => hm1⟩
theorem any_p (N : Nat) (d : T_bk_Drum) (l : List Int) (hl : l ≠ []) (hlen : l.length < 1000) : ∃ r d',p_bk_Drum_Any N d l = some (r,d') ∧ r ∈ l:=by
 unfold p_bk_Drum_Any
 have hpos : 0 < l.length:=List.length_pos_iff.2 hl
 have hb : (((l.length : Nat) : Int) == 0) = false:=by simp; omega
 rw [hb,cond_false]
 obtain ⟨r,d',h1,h2,h3,h4⟩:=roll_p N d ((l.length : Nat) : Int) (by omega)
 rw [h1]
 simp only [Option.bind_some]
 have hr : r < (l.length : Int):=by
  by_cases h : (l.length : Int) < 2
  ·rw [h3 h]; omega
  ·exact h4 (by omega)
 obtain ⟨x,e1,_,e3⟩:=getI_lt h2 hr
 rw [e1]
 exact ⟨x,d',rfl,e3⟩
theorem mid_p (N : Nat) (d : T_bk_Drum) (lo hi : Int) (h0 : -4611686018427387904 ≤ lo) (h1 : lo ≤ 4611686018427387903) (h2 : -4611686018427387904 ≤ hi) (h3 : hi ≤ 4611686018427387902) : ∃ r d',p_bk_Drum_Mid N d lo hi = some (r,d') ∧ lo ≤ r ∧ (lo ≤ hi → r ≤ hi) ∧ (hi < lo → r = lo):=by
 unfold p_bk_Drum_Mid
 rw [w64 (x:=hi - lo) (by omega) (by omega)]
 by_cases hc : hi - lo + 1 < 9223372036854775808
 ·rw [w64 (x := hi - lo + 1) (by omega) hc]
  obtain ⟨r,d',e1,e2,e3,e4⟩:=roll_p N d (hi - lo + 1) hc
  rw [e1]
  simp only [Option.bind_some]
  have hr : r ≤ hi - lo ∨ r = 0:=by
   by_cases h : hi - lo + 1 < 2
   ·exact .inr (e3 h)
   ·have:=e4 (by omega); exact .inl (by omega)
  rw [w64 (by omega) (by omega)]
  exact ⟨_, d', rfl, by omega, fun h => by omega, fun h => by
   have:=e3 (by omega)
   omega⟩
 ·omega
theorem drumOf_step (N : Nat) (l : List Int) (rec : Int → Int → Option T_bk_Drum) (i q : Int) (h : i < 9223372036854775807) (h0 : 0 ≤ i) (ih : ∀ b',∃ d,rec (i + 1) b' = some d) : ∃ d,((p_bk_Drum_hit N (⟨q⟩ : T_bk_Drum)).bind fun r_14 => (rec (IntKind.i64.wrap (i + 1)) r_14.2.beat_)) = some d:=by
 obtain ⟨y,d',g1,_,_⟩:=hit_p N ⟨q⟩
 rw [g1,w64 (x:=i + 1) (by omega) (by omega)]
 exact ih _
theorem drumOf_p (N : Nat) (l : List Int) (hN : l.length < N) (hl : l.length < 9223372036854775808) : ∃ d,p_bk_DrumOf N l = some d:=by
 unfold p_bk_DrumOf
 rw [letJ_eq]
 refine loop2_T (fun x => ∃ d,x = some d) (fun i b => 0 ≤ i ∧ i ≤ (l.length : Int)) (fun i b => l.length - i.toNat) ?_ N 0 _ ⟨by omega,by omega⟩ (by simpa using hN)
 rintro rec i b ⟨h0,h1⟩ ih
 by_cases hc : i < (l.length : Int)
 ·rw [show decide (i < ((l.length : Nat) : Int)) = true from decide_eq_true hc,cond_true]
  obtain ⟨x,e1,_,_⟩:=getI_lt h0 hc
  rw [e1,Option.bind_some,Option.bind_some]
  exact drumOf_step N l rec i _ (by omega) h0 fun b' => ih _ _ ⟨by omega,by omega⟩ (by omega)
 ·rw [show decide (i < ((l.length : Nat) : Int)) = false from decide_eq_false hc,cond_false]
  exact ⟨_,rfl⟩
theorem roll_le (N : Nat) (d : T_bk_Drum) (n : Int) (h1 : 1 ≤ n) (hn : n < 9223372036854775808) : ∃ r d',p_bk_Drum_Roll N d n = some (r,d') ∧ 0 ≤ r ∧ r < n:=by
 obtain ⟨r,d',e,h0,h2,h3⟩:=roll_p N d n hn
 refine ⟨r,d',e,h0,?_⟩
 by_cases h : n < 2
 ·rw [h2 h]; omega
 ·exact h3 (by omega)
end Go.Proofs.YthfpmjnmaifgaaaDoor
end
section
namespace Go.Proofs.YthfpmjnmaifgaaaDoor
open Go.RowKit
theorem of_p (N : Nat) (d : T_bk_Drum) (x : T_Span) (h : x.Lo ≤ x.Hi) (h0 : -4611686018427387904 ≤ x.Lo) (h1 : x.Hi ≤ 4611686018427387902) : ∃ r d',p_bk_Drum_Of N d x = some (r,d') ∧ x.Lo ≤ r ∧ r ≤ x.Hi:=by
 unfold p_bk_Drum_Of
 obtain ⟨r,d',e1,e2,e3,e4⟩:=roll_p N d 4 (by omega)
 rw [e1]
 simp only [Option.bind_some]
 cases hc : (r == 0) with
 | true => exact ⟨x.Lo,d',rfl,by omega,h⟩
 | false =>
  cases hc2 : (r == 1) with
  | true => exact ⟨x.Hi,d',rfl,h,by omega⟩
  | false =>
   simp only [cond_false]
   obtain ⟨m,d2,g1,g2,g3,_⟩:=mid_p N d' x.Lo x.Hi h0 (by omega) (by omega) h1
   rw [g1]
   exact ⟨m,d2,rfl,g2,g3 h⟩
end Go.Proofs.YthfpmjnmaifgaaaDoor
end
section
namespace Go.Proofs.YthfpmjnmaifgaaaDoor
open Go.RowKit
attribute [local simp] ren ren1 AV.plain AV.plain1 AV.clean cleanL cleanI cleanBo cleanSt cleanII plFB clFB faFB KL_bk_Drum KL_Span A_bk_Drum C_bk_Drum A_Span C_Span back back1 re re1 fadeS fadeV List.idxOf? List.findIdx? List.findIdx?.go KB_bk_Drum KB_Span
def p_bk_Fit (N : Nat) (x_1 : Int) (n_2 : Int) : Option (Int):=(bif (decide (n_2 < 2)) then some 0 else ((nzI n_2).bind fun u_4 => (bif (decide ((Int.tmod x_1 n_2) < 0)) then some (IntKind.i64.wrap ((Int.tmod x_1 n_2) + n_2)) else some (Int.tmod x_1 n_2))))
def v_bk_Fit (r : Int) : AV:=i6 r
attribute [local simp] v_bk_Fit
theorem b_bk_Fit (r : Int) (n n2 m : Nat) : back n n2 m (v_bk_Fit r) = some (v_bk_Fit r):=by simp
theorem d_bk_Fit (N : Nat) (x_1 : Int) (n_2 : Int) (r : Int) (h : p_bk_Fit N x_1 n_2 = some r) : Does Tryd.prog 30 [i6 x_1,i6 n_2] [] fun v c => v = v_bk_Fit r ∧ c = []:=by
 unfold p_bk_Fit at h
 refine Does.ofL comp30 _ _ rfl rfl ?_
 refine Ex.seq (rg 1 [0,1] (mkS 16 [(0,i6 x_1),(1,i6 n_2)]) ⟨[],[]⟩ ?_)
 refine Ex.seq (Ex.seq ?_)
 refine rg 2 [0,1,6] (mkS 16 [(0,i6 x_1),(1,i6 n_2),(6,.bool (decide (n_2 < 2)))]) ⟨[],[]⟩ ?_
 rcases condI h with ⟨hc_3,h⟩ | ⟨hc_3,h⟩
 ·refine Ex.condT _ rfl hc_3 ?_
  refine Ex.seq (rg 1 [4] (mkS 16 [(4,i6 0)]) ⟨[],[]⟩ ?_)
  refine Ex.ret ?_
  obtain rfl:=sJ h
  exact rt (i6 0)
 ·refine Ex.condF _ rfl hc_3 ?_
  refine Ex.skip ?_
  refine Ex.seq ?_
  obtain ⟨u_4,hu_4,h⟩:=bE h
  refine regH 4 [(2,.bin (i6 (Int.tmod x_1 n_2)))] [0,1] [binA .rem (i6 x_1) (i6 n_2) = some (i6 (Int.tmod x_1 n_2))] (mkS 16 [(0,i6 (Int.tmod x_1 n_2)),(1,i6 n_2)]) (⟨[],[]⟩) (by kernel_rfl) ⟨binR hu_4,trivial⟩ rfl ?_
  refine Ex.seq (Ex.seq ?_)
  refine rg 2 [0,1,11] (mkS 16 [(0,i6 (Int.tmod x_1 n_2)),(1,i6 n_2),(11,.bool (decide ((Int.tmod x_1 n_2) < 0)))]) ⟨[],[]⟩ ?_
  rcases condI h with ⟨hc_5,h⟩ | ⟨hc_5,h⟩
  ·refine Ex.condT _ rfl hc_5 ?_
   refine rg 4 [0] (mkS 16 [(0,i6 (IntKind.i64.wrap ((Int.tmod x_1 n_2) + n_2)))]) ⟨[],[]⟩ ?_
   refine Ex.seq (rg 2 [4] (mkS 16 [(4,i6 (IntKind.i64.wrap ((Int.tmod x_1 n_2) + n_2)))]) ⟨[],[]⟩ ?_)
   refine Ex.ret ?_
   obtain rfl:=sJ h
   exact rt (i6 (IntKind.i64.wrap ((Int.tmod x_1 n_2) + n_2)))
  ·refine Ex.condF _ rfl hc_5 ?_
   refine Ex.skip ?_
   refine Ex.seq (rg 2 [4] (mkS 16 [(4,i6 (Int.tmod x_1 n_2))]) ⟨[],[]⟩ ?_)
   refine Ex.ret ?_
   obtain rfl:=sJ h
   exact rt (i6 (Int.tmod x_1 n_2))
structure T_Street where
 A : Int
 B : Int
 deriving Inhabited
def C_Street (x : T_Street) : List AV:=[i6 x.A,i6 x.B]
attribute [local simp] C_Street
def A_Street (x : T_Street) : AV:=.agg (C_Street x)
attribute [local simp] A_Street
theorem KC_Street (x : T_Street) : cleanL (C_Street x) = true:=by simp
theorem KA_Street (x : T_Street) : (A_Street x).clean = true:=KC_Street x
theorem KL_Street (l : List T_Street) : cleanL (l.map A_Street) = true:=cleanM KA_Street l
attribute [local simp] KL_Street
theorem KB_Street (x : T_Street) (n : Nat) (σ : List Nat) : (C_Street x).mapM (re n σ) = some (C_Street x):=by simp
attribute [local simp] KB_Street
def p_br6_Other (N : Nat) (s_1 : T_Street) (square_2 : Int) : Option (Int):=(bif (square_2 == s_1.A) then some s_1.B else (bif (square_2 == s_1.B) then some s_1.A else some (-1)))
def v_br6_Other (r : Int) : AV:=i6 r
attribute [local simp] v_br6_Other
theorem a_br6_Other (s_1 : T_Street) (square_2 : Int) : [(A_Street s_1),i6 square_2].mapM (ren []) = some [(A_Street s_1),i6 square_2]:=by simp
theorem b_br6_Other (r : Int) (n n2 m : Nat) : back n n2 m (v_br6_Other r) = some (v_br6_Other r):=by simp
theorem d_br6_Other (N : Nat) (s_1 : T_Street) (square_2 : Int) (r : Int) (h : p_br6_Other N s_1 square_2 = some r) : Does Tryd.prog 32 [(A_Street s_1),i6 square_2] [] fun v c => v = v_br6_Other r ∧ c = []:=by
 unfold p_br6_Other at h
 refine Does.ofL comp32 _ _ rfl rfl ?_
 refine Ex.seq (rg 2 [1,2] (mkS 18 [(1,i6 square_2),(2,.ptr 0 0)]) ⟨[(C_Street s_1)],[]⟩ ?_)
 refine Ex.seq (Ex.seq ?_)
 refine rg 1 [2,5] (mkS 18 [(2,.ptr 0 0),(5,i6 square_2)]) ⟨[(C_Street s_1)],[]⟩ ?_
 refine Ex.blockK ?_
 refine Ex.seq (rg 4 [2,5,6] (mkS 18 [(2,.ptr 0 0),(5,i6 square_2),(6,.bool (square_2 == s_1.A))]) ⟨[(C_Street s_1)],[]⟩ ?_)
 rcases condI h with ⟨hc_3,h⟩ | ⟨hc_3,h⟩
 ·refine Ex.condT _ rfl hc_3 ?_
  refine Ex.seq (rg 3 [4] (mkS 18 [(4,i6 s_1.B)]) ⟨[(C_Street s_1)],[]⟩ ?_)
  refine Ex.ret ?_
  obtain rfl:=sJ h
  exact rt (i6 s_1.B)
 ·refine Ex.condF _ rfl hc_3 ?_
  refine Ex.seq (rg 4 [2,12] (mkS 18 [(2,.ptr 0 0),(12,.bool (square_2 == s_1.B))]) ⟨[(C_Street s_1)],[]⟩ ?_)
  rcases condI h with ⟨hc_4,h⟩ | ⟨hc_4,h⟩
  ·refine Ex.condT _ rfl hc_4 ?_
   refine Ex.seq (rg 3 [4] (mkS 18 [(4,i6 s_1.A)]) ⟨[(C_Street s_1)],[]⟩ ?_)
   refine Ex.ret ?_
   obtain rfl:=sJ h
   exact rt (i6 s_1.A)
  ·refine Ex.condF _ rfl hc_4 ?_
   refine Ex.skip ?_
   refine Ex.seq (rg 1 [4] (mkS 18 [(4,i6 (-1))]) ⟨[(C_Street s_1)],[]⟩ ?_)
   refine Ex.ret ?_
   obtain rfl:=sJ h
   exact rt (i6 (-1))
structure T_Group where
 Size : T_Span
 At : T_Span
 Stay : Int
 First : Int
 Path : (List Int)
 deriving Inhabited
def C_Group (x : T_Group) : List AV:=[i6 x.Size.Lo,i6 x.Size.Hi,i6 x.At.Lo,i6 x.At.Hi,i6 x.Stay,i6 x.First,.sl (x.Path.map (AV.int .i64)) none]
attribute [local simp] C_Group
def A_Group (x : T_Group) : AV:=.agg (C_Group x)
attribute [local simp] A_Group
theorem KC_Group (x : T_Group) : cleanL (C_Group x) = true:=by simp
theorem KA_Group (x : T_Group) : (A_Group x).clean = true:=KC_Group x
theorem KL_Group (l : List T_Group) : cleanL (l.map A_Group) = true:=cleanM KA_Group l
attribute [local simp] KL_Group
theorem KB_Group (x : T_Group) (n : Nat) (σ : List Nat) : (C_Group x).mapM (re n σ) = some (C_Group x):=by simp
attribute [local simp] KB_Group
structure T_Town where
 Rooms : (List Int)
 Streets : (List T_Street)
 Groups : (List T_Group)
 Steps : Int
 deriving Inhabited
def C_Town (x : T_Town) : List AV:=[.sl (x.Rooms.map (AV.int .i64)) none,.sl (x.Streets.map A_Street) none,.sl (x.Groups.map A_Group) none,i6 x.Steps]
attribute [local simp] C_Town
def A_Town (x : T_Town) : AV:=.agg (C_Town x)
attribute [local simp] A_Town
theorem KC_Town (x : T_Town) : cleanL (C_Town x) = true:=by simp
theorem KA_Town (x : T_Town) : (A_Town x).clean = true:=KC_Town x
theorem KL_Town (l : List T_Town) : cleanL (l.map A_Town) = true:=cleanM KA_Town l
attribute [local simp] KL_Town
theorem KB_Town (x : T_Town) (n : Nat) (σ : List Nat) : (C_Town x).mapM (re n σ) = some (C_Town x):=by simp
attribute [local simp] KB_Town
theorem IJ_bk_Drum (x y : T_bk_Drum) (h : A_bk_Drum x = A_bk_Drum y) : x = y:=by
 have h:=AV.agg.inj h
 simp only [C_bk_Drum,List.cons.injEq,AV.int.injEq,AV.bool.injEq,AV.str.injEq,AV.sl.injEq,true_and,and_true] at h
 have h0:=h
 obtain ⟨x0⟩:=x; obtain ⟨y0⟩:=y; simp_all
theorem k_bk_Drum_Roll (N : Nat) (d_1 : T_bk_Drum) (n_2 : Int) (d_1z : T_bk_Drum) (n_2z : Int) (r s : Int × T_bk_Drum) (hr : p_bk_Drum_Roll N d_1 n_2 = some r) (hs : p_bk_Drum_Roll N d_1z n_2z = some s) : ConsR ⟨10,[.ptr 0 0,i6 n_2],[(C_bk_Drum d_1)],v_bk_Drum_Roll r,[(C_bk_Drum r.2)]⟩ ⟨10,[.ptr 0 0,i6 n_2z],[(C_bk_Drum d_1z)],v_bk_Drum_Roll s,[(C_bk_Drum s.2)]⟩:=by
 intro _ h1 h2
 have h1 : ([.ptr 0 0,i6 n_2] : List AV) = [.ptr 0 0,i6 n_2z]:=h1
 have h2 : ([(C_bk_Drum d_1)] : List (List AV)) = [(C_bk_Drum d_1z)]:=h2
 obtain rfl : d_1 = d_1z:=IJ_bk_Drum _ _ (congrArg AV.agg (List.cons.inj h2).1)
 obtain rfl : n_2 = n_2z:=(intInj _) _ _ (List.cons.inj (List.cons.inj h1).2).1
 rw [hr] at hs; cases hs; exact ⟨rfl,rfl⟩
def p_bk_TownOf (N : Nat) (d_1 : T_bk_Drum) (squares_2 : Int) (streets_3 : Int) (groups_4 : Int) : Option (T_Town × T_bk_Drum):=((p_bk_Drum_Any N d_1 [4,11]).bind fun r_5 => ((p_bk_Drum_Roll N r_5.2 r_5.1).bind fun r_6 => ((p_bk_Drum_Mid N r_6.2 1 squares_2).bind fun r_7 => (letJ (fun (b_8 : Int) (b_9 : List Int) => ((p_bk_Drum_Roll N (⟨b_8⟩ : T_bk_Drum) (IntKind.i64.wrap (streets_3 + 1))).bind fun r_25 => (letJ (fun (b_26 : Int) (b_27 : List T_Street) => ((p_bk_Drum_Roll N (⟨b_26⟩ : T_bk_Drum) (IntKind.i64.wrap (groups_4 + 1))).bind fun r_48 => (letJ (fun (b_49 : Int) (b_50 : List T_Group) => some ((⟨b_9,b_27,b_50,r_6.1⟩ : T_Town),(⟨b_49⟩ : T_bk_Drum))) (fun k_51 => (loop3 (fun rec_57 (i_54 : Int) (b_55 : Int) (b_56 : List T_Group) => (bif (decide (i_54 > 0)) then ((p_bk_Drum_Any N (⟨b_55⟩ : T_bk_Drum) [30,90]).bind fun r_61 => ((p_bk_Drum_Span N r_61.2 0 r_61.1).bind fun r_62 => ((p_bk_Drum_Any N r_62.2 [0,4]).bind fun r_63 => ((p_bk_Drum_Span N r_63.2 0 r_63.1).bind fun r_64 => ((p_bk_Drum_Mid N r_64.2 1 4).bind fun r_65 => ((p_bk_Drum_Roll N r_65.2 r_7.1).bind fun r_66 => ((p_bk_Drum_Roll N r_66.2 5).bind fun r_67 => (letJ (fun (b_68 : Int) (b_69 : List Int) => ((pushI b_56 ([(⟨r_62.1,r_64.1,r_65.1,r_66.1,b_69⟩ : T_Group)] : List T_Group)).bind fun l_97 => (rec_57 (IntKind.i64.wrap (i_54 - 1)) b_68 l_97))) (fun k_70 => (loop4 (fun rec_77 (at_73 : Int) (k_74 : Int) (b_75 : Int) (b_76 : List Int) => (letJ (fun (y_80 : Bool) => (bif y_80 then (letJ (fun (at_86 : Int) (b_87 : Int) (b_88 : List Int) => (rec_77 at_86 (IntKind.i64.wrap (k_74 - 1)) b_87 b_88)) (fun k_89 => ((p_bk_Drum_Roll N (⟨b_75⟩ : T_bk_Drum) ((b_27.length : Nat) : Int)).bind fun r_92 => ((getI b_27 r_92.1).bind fun x_93 => ((p_br6_Other N x_93 at_73).bind fun r_94 => (bif (decide (r_94 ≥ 0)) then ((pushI b_76 ([r_92.1] : List Int)).bind fun l_96 => (k_89 r_94 r_92.2.beat_ l_96)) else (k_89 at_73 r_92.2.beat_ b_76))))))) else (k_70 b_75 b_76))) (fun k_81 => (bif (decide (k_74 > 0)) then (k_81 (decide (((b_27.length : Nat) : Int) > 0))) else (k_81 false))))) N r_66.1 r_67.1 r_67.2.beat_ [])))))))))) else (k_51 b_55 b_56))) N r_48.1 r_48.2.beat_ []))))) (fun k_28 => (loop3 (fun rec_34 (i_31 : Int) (b_32 : Int) (b_33 : List T_Street) => (letJ (fun (y_37 : Bool) => (bif y_37 then ((p_bk_Drum_Roll N (⟨b_32⟩ : T_bk_Drum) r_7.1).bind fun r_43 => ((p_bk_Drum_Mid N r_43.2 1 (IntKind.i64.wrap (r_7.1 - 1))).bind fun r_44 => ((p_bk_Fit N (IntKind.i64.wrap (r_43.1 + r_44.1)) r_7.1).bind fun r_45 => ((pushI b_33 ([(⟨r_43.1,r_45⟩ : T_Street)] : List T_Street)).bind fun l_47 => (rec_34 (IntKind.i64.wrap (i_31 - 1)) r_44.2.beat_ l_47))))) else (k_28 b_32 b_33))) (fun k_38 => (bif (decide (i_31 > 0)) then (k_38 (decide (r_7.1 > 1))) else (k_38 false))))) N r_25.1 r_25.2.beat_ []))))) (fun k_10 => (loop3 (fun rec_16 (i_13 : Int) (b_14 : Int) (b_15 : List Int) => (bif (decide (i_13 < r_7.1)) then ((p_bk_Drum_Roll N (⟨b_14⟩ : T_bk_Drum) 60).bind fun r_20 => ((p_bk_Drum_Roll N r_20.2 150).bind fun r_21 => ((p_bk_Drum_Any N r_21.2 [r_20.1,r_21.1,500]).bind fun r_22 => ((pushI b_15 ([r_22.1] : List Int)).bind fun l_24 => (rec_16 (IntKind.i64.wrap (i_13 + 1)) r_22.2.beat_ l_24))))) else (k_10 b_14 b_15))) N 0 r_7.2.beat_ []))))))
def v_bk_TownOf (r : T_Town × T_bk_Drum) : AV:=(A_Town r.1)
attribute [local simp] v_bk_TownOf
theorem b_bk_TownOf (r : T_Town × T_bk_Drum) (n n2 m : Nat) : back n n2 m (v_bk_TownOf r) = some (v_bk_TownOf r):=by simp
theorem d_bk_TownOf (N : Nat) (d_1 : T_bk_Drum) (squares_2 : Int) (streets_3 : Int) (groups_4 : Int) (r : T_Town × T_bk_Drum) (h : p_bk_TownOf N d_1 squares_2 streets_3 groups_4 = some r) : Does Tryd.prog 14 [.ptr 0 0,i6 squares_2,i6 streets_3,i6 groups_4] [(C_bk_Drum d_1)] fun v c => v = v_bk_TownOf r ∧ c = [(C_bk_Drum r.2)]:=by
 unfold p_bk_TownOf at h
 refine Does.ofL comp14 _ _ rfl rfl ?_
 refine Ex.seq (rg 1 [0,1,2,3,8] (mkS 142 [(0,.ptr 0 0),(1,i6 squares_2),(2,i6 streets_3),(3,i6 groups_4),(8,.ptr 1 0)]) ⟨[(C_bk_Drum d_1),[.nils,.nils,.nils,i6 0]],[]⟩ ?_)
 refine Ex.seq ?_
 obtain ⟨r_5,hr_5,h⟩:=bE h
 refine Ex.reg (rn 3 [0,1,2,3,8,20,21,22] (mkS 142 [(0,.ptr 0 0),(1,i6 squares_2),(2,i6 streets_3),(3,i6 groups_4),(8,.ptr 1 0),(20,.ptr 0 0),(21,.ptr 0 0),(22,.sl (([4,11] : List Int).map (AV.int .i64)) (some 0))]) ⟨[(C_bk_Drum d_1),[.nils,.nils,.nils,i6 0]],[(2,1)]⟩ ?_)
 refine ExO.callL [0] [.ptr 0 0,.sl (([4,11] : List Int).map (AV.int .i64)) (some 0)] rfl rfl (by simp; try rfl) rfl (by simp) (d_bk_Drum_Any N d_1 [4,11] r_5 hr_5) (b_bk_Drum_Any _ _ _ _) (by simp) ?_
 obtain ⟨r_6,hr_6,h⟩:=bE h
 refine ExO.callL [0] [.ptr 0 0,i6 r_5.1] rfl rfl (by simp; try rfl) rfl (by simp) (d_bk_Drum_Roll N r_5.2 r_5.1 r_6 hr_6) (b_bk_Drum_Roll _ _ _ _) (by simp) ?_
 refine rn 3 [0,1,2,3,8,9] (mkS 142 [(0,.ptr 0 0),(1,i6 squares_2),(2,i6 streets_3),(3,i6 groups_4),(8,.ptr 1 0),(9,.ptr 2 0)]) ⟨[(C_bk_Drum r_6.2),[.nils,.nils,.nils,i6 0],[.nils,.nils,.nils,i6 r_6.1]],[(2,1)]⟩ ?_
 refine ExO.nil ?_
 refine Ex.seq ?_
 obtain ⟨r_7,hr_7,h⟩:=bE h
 refine Ex.reg (rn 2 [0,2,3,8,9,26,27] (mkS 142 [(0,.ptr 0 0),(2,i6 streets_3),(3,i6 groups_4),(8,.ptr 1 0),(9,.ptr 2 0),(26,.ptr 0 0),(27,i6 squares_2)]) ⟨[(C_bk_Drum r_6.2),[.nils,.nils,.nils,i6 0],[.nils,.nils,.nils,i6 r_6.1]],[(2,1)]⟩ ?_)
 refine ExO.callL [0] [.ptr 0 0,i6 1,i6 squares_2] rfl rfl (by simp; try rfl) rfl (by simp) (d_bk_Drum_Mid N r_6.2 1 squares_2 r_7 hr_7) (b_bk_Drum_Mid _ _ _ _) (by simp) ?_
 refine rn 1 [0,2,3,8,9,10] (mkS 142 [(0,.ptr 0 0),(2,i6 streets_3),(3,i6 groups_4),(8,.ptr 1 0),(9,.ptr 2 0),(10,i6 r_7.1)]) ⟨[(C_bk_Drum r_7.2),[.nils,.nils,.nils,i6 0],[.nils,.nils,.nils,i6 r_6.1]],[(2,1)]⟩ ?_
 refine ExO.nil ?_
 refine Ex.seq (Ex.seq ?_)
 refine rg 1 [0,2,3,8,9,10,11] (mkS 142 [(0,.ptr 0 0),(2,i6 streets_3),(3,i6 groups_4),(8,.ptr 1 0),(9,.ptr 2 0),(10,i6 r_7.1),(11,i6 0)]) ⟨[(C_bk_Drum r_7.2),[.nils,.nils,.nils,i6 0],[.nils,.nils,.nils,i6 r_6.1]],[(2,1)]⟩ ?_
 obtain ⟨K_11,hK_12,h⟩:=letE h
 refine Ex.blockJ (fun a S => ∃ (b_8 : Int),∃ (b_9 : List Int),K_11 b_8 b_9 = some r ∧ a = mkS 142 [(0,.ptr 0 0),(2,i6 streets_3),(3,i6 groups_4),(8,.ptr 1 0),(9,.ptr 2 0),(10,i6 r_7.1)] ∧ S = ⟨[[.int .u64 b_8],[.nils,.nils,.nils,i6 0],[.sl (b_9.map (AV.int .i64)) (some 0),.nils,.nils,i6 r_6.1]],[(b_9.length,1)]⟩) ?_ ?_
 ·refine Ex.forget (nilB 2 0 1 [.nils,.nils,.nils,i6 r_6.1] rfl rfl) ?_
  refine Ex.castA (a2:=mkS 142 [(0,.ptr 0 0),(2,i6 streets_3),(3,i6 groups_4),(8,.ptr 1 0),(9,.ptr 2 0),(10,i6 r_7.1),(11,i6 0)]) (S2:=⟨[(C_bk_Drum r_7.2),[.nils,.nils,.nils,i6 0],[.sl (([] : List Int).map (AV.int .i64)) (some 1),.nils,.nils,i6 r_6.1]],[(2,1),(0,1)]⟩) (by kernel_rfl) (by kernel_rfl) ?_
  obtain ⟨B_17,hB_18,h⟩:=loop3I h
  refine Ex.loopF (fun k a S => ∃ (i_13 : Int),∃ (b_14 : Int),∃ (b_15 : List Int),loop3 B_17 k i_13 b_14 b_15 = some r ∧ a = mkS 142 [(0,.ptr 0 0),(2,i6 streets_3),(3,i6 groups_4),(8,.ptr 1 0),(9,.ptr 2 0),(10,i6 r_7.1),(11,i6 i_13)] ∧ S = ⟨[[.int .u64 b_14],[.nils,.nils,.nils,i6 0],[.sl (b_15.map (AV.int .i64)) (some 0),.nils,.nils,i6 r_6.1]],[(b_15.length,1)]⟩) N ⟨_,_,forgetA (m:=142) 3 [1] [(0,.ptr 0 0),(2,i6 streets_3),(3,i6 groups_4),(8,.ptr 1 0),(9,.ptr 2 0),(10,i6 r_7.1),(11,i6 0)] [(C_bk_Drum r_7.2),[.nils,.nils,.nils,i6 0],[.sl (([] : List Int).map (AV.int .i64)) (some 0),.nils,.nils,i6 r_6.1]] [(0,1)] (by simp [setAll]) (by simp) ⟨rfl,rfl,rfl,rfl,rfl,rfl,rfl,trivial⟩ (by simp) rfl (by decide),0,r_7.2.beat_,[],h,rfl,rfl⟩ ?_
  rintro k a S ⟨i_13,b_14,b_15,h,rfl,rfl⟩
  cases k with
  | zero => exact (loop3Z h).elim
  | succ k =>
   replace h:=loop3S h hB_18
   refine Ex.seq (Ex.seq ?_)
   refine rg 3 [0,2,3,8,9,10,11,31] (mkS 142 [(0,.ptr 0 0),(2,i6 streets_3),(3,i6 groups_4),(8,.ptr 1 0),(9,.ptr 2 0),(10,i6 r_7.1),(11,i6 i_13),(31,.bool (decide (i_13 < r_7.1)))]) ⟨[[.int .u64 b_14],[.nils,.nils,.nils,i6 0],[.sl (b_15.map (AV.int .i64)) (some 0),.nils,.nils,i6 r_6.1]],[(b_15.length,1)]⟩ ?_
   rcases condI h with ⟨hc_19,h⟩ | ⟨hc_19,h⟩
   ·refine Ex.condT _ rfl hc_19 ?_
    refine Ex.skip ?_
    refine Ex.seq ?_
    refine Ex.blockK ?_
    obtain ⟨r_20,hr_20,h⟩:=bE h
    obtain ⟨r_21,hr_21,h⟩:=bE h
    obtain ⟨r_22,hr_22,h⟩:=bE h
    have hT_23 : DoesA Tryd.prog [⟨10,[.ptr 0 0,i6 60],[[.int .u64 b_14]],(v_bk_Drum_Roll r_20),[(C_bk_Drum r_20.2)]⟩,⟨10,[.ptr 0 0,i6 150],[(C_bk_Drum r_20.2)],(v_bk_Drum_Roll r_21),[(C_bk_Drum r_21.2)]⟩,⟨15,[.ptr 0 0,.sl (([r_20.1,r_21.1,500] : List Int).map (AV.int .i64)) none],[(C_bk_Drum r_21.2)],(v_bk_Drum_Any r_22),[(C_bk_Drum r_22.2)]⟩] ∧ ConsA [⟨10,[.ptr 0 0,i6 60],[[.int .u64 b_14]],(v_bk_Drum_Roll r_20),[(C_bk_Drum r_20.2)]⟩,⟨10,[.ptr 0 0,i6 150],[(C_bk_Drum r_20.2)],(v_bk_Drum_Roll r_21),[(C_bk_Drum r_21.2)]⟩,⟨15,[.ptr 0 0,.sl (([r_20.1,r_21.1,500] : List Int).map (AV.int .i64)) none],[(C_bk_Drum r_21.2)],(v_bk_Drum_Any r_22),[(C_bk_Drum r_22.2)]⟩]:=⟨⟨(d_bk_Drum_Roll N (⟨b_14⟩ : T_bk_Drum) 60 r_20 hr_20),rfl,(d_bk_Drum_Roll N r_20.2 150 r_21 hr_21),rfl,(d_bk_Drum_Any N r_21.2 [r_20.1,r_21.1,500] r_22 hr_22),rfl,trivial⟩,⟨⟨k_bk_Drum_Roll N (⟨b_14⟩ : T_bk_Drum) 60 r_20.2 150 r_20 r_21 hr_20 hr_21,ConsR.ne rfl,trivial⟩,⟨ConsR.ne rfl,trivial⟩,trivial,trivial⟩⟩
    refine Ex.drawE (a1:=mkS 142 [(0,.ptr 0 0),(2,i6 streets_3),(3,i6 groups_4),(8,.ptr 1 0),(9,.ptr 2 0),(10,i6 r_7.1),(11,i6 i_13),(31,.bool (decide (i_13 < r_7.1))),(34,.ptr 2 0),(35,.sl (b_15.map (AV.int .i64)) (some 0)),(36,.ptr 0 0),(37,.ptr 0 0),(38,i6 r_20.1),(39,.ptr 0 0),(40,i6 r_21.1),(41,.sl (([r_20.1,r_21.1,500] : List Int).map (AV.int .i64)) (some 1)),(42,i6 r_22.1),(43,.sl (([r_22.1] : List Int).map (AV.int .i64)) (some 2))]) (tabO_ok hT_23.1) [] [(3,1),(1,1)] [⟨[(C_bk_Drum r_20.2),[.nils,.nils,.nils,i6 0],[.sl (b_15.map (AV.int .i64)) (some 0),.nils,.nils,i6 r_6.1]],[(b_15.length,1),(3,1),(1,1)]⟩,⟨[(C_bk_Drum r_21.2),[.nils,.nils,.nils,i6 0],[.sl (b_15.map (AV.int .i64)) (some 0),.nils,.nils,i6 r_6.1]],[(b_15.length,1),(3,1),(1,1)]⟩,⟨[(C_bk_Drum r_22.2),[.nils,.nils,.nils,i6 0],[.sl (b_15.map (AV.int .i64)) (some 0),.nils,.nils,i6 r_6.1]],[(b_15.length,1),(3,1),(1,1)]⟩] ?_ ?_
    ·refine drS [1, 2] 4 [] [] (mkS 142 [(0, .ptr 0 0), (2, i6 streets_3), (3, i6 groups_4), (8, .ptr 1 0), (9, .ptr 2 0), (10, i6 r_7.1), (11, i6 i_13), (31, .bool (decide (i_13 < r_7.1))), (34, .ptr 2 0), (35, .sl (b_15.map (AV.int .i64)) (some 0)), (36, .ptr 0 0), (37, .ptr 0 0)]) (by simp) (by kernel_rfl) trivial (by kernel_rfl) ?_
     refine drB hT_23.2 0 _ [0] [.ptr 0 0,i6 60] (v_bk_Drum_Roll r_20) _ _ rfl rfl rfl rfl rfl rfl rfl rfl (by simp; try rfl) rfl (by simp) (b_bk_Drum_Roll _ _ _ _) (by simp) rfl ?_
     refine drS [1,2] 1 [] [] (mkS 142 [(0,.ptr 0 0),(2,i6 streets_3),(3,i6 groups_4),(8,.ptr 1 0),(9,.ptr 2 0),(10,i6 r_7.1),(11,i6 i_13),(31,.bool (decide (i_13 < r_7.1))),(34,.ptr 2 0),(35,.sl (b_15.map (AV.int .i64)) (some 0)),(36,.ptr 0 0),(37,.ptr 0 0),(38,i6 r_20.1),(39,.ptr 0 0)]) (by simp) (by kernel_rfl) trivial (by kernel_rfl) ?_
     refine drB hT_23.2 1 _ [0] [.ptr 0 0,i6 150] (v_bk_Drum_Roll r_21) _ _ rfl rfl rfl rfl rfl rfl rfl rfl (by simp; try rfl) rfl (by simp) (b_bk_Drum_Roll _ _ _ _) (by simp) rfl ?_
     refine drR 1 1 (([r_20.1,r_21.1,500] : List Int).map (AV.int .i64)) rfl rfl (fun _ => by kernel_rfl) (by simp) rfl rfl ?_
     refine drB hT_23.2 2 _ [0] [.ptr 0 0,.sl (([r_20.1,r_21.1,500] : List Int).map (AV.int .i64)) (some 1)] (v_bk_Drum_Any r_22) _ _ rfl rfl rfl rfl rfl rfl rfl rfl (by simp; try rfl) rfl (by simp) (b_bk_Drum_Any _ _ _ _) (by simp) rfl ?_
     refine drR 2 1 (([r_22.1] : List Int).map (AV.int .i64)) rfl rfl (fun _ => by kernel_rfl) (by simp) rfl rfl ?_
     exact DrO.nil rfl
    ·dsimp only [List.getLastD_cons,List.getLastD_nil]
     obtain ⟨l_24,hl_24,h⟩:=bE h
     refine runH 3 [(0,.app (l_24.map (AV.int .i64)) l_24.length)] [0,2,3,8,9,10,11] [LApp b_15.length (b_15.map (AV.int .i64)) (([r_22.1] : List Int).map (AV.int .i64)) 1 (l_24.map (AV.int .i64)) l_24.length] (mkS 142 [(0,.ptr 0 0),(2,i6 streets_3),(3,i6 groups_4),(8,.ptr 1 0),(9,.ptr 2 0),(10,i6 r_7.1),(11,i6 i_13)]) (⟨[(C_bk_Drum r_22.2),[.nils,.nils,.nils,i6 0],[.sl (l_24.map (AV.int .i64)) (some 0),.nils,.nils,i6 r_6.1]],[(l_24.length,1),(3,1),(1,1)]⟩) (by kernel_rfl) ⟨LApp.of hl_24 (fun _ => rfl),trivial⟩ ?_
     refine ExO.nil ?_
     refine rg 3 [0,2,3,8,9,10,11] (mkS 142 [(0,.ptr 0 0),(2,i6 streets_3),(3,i6 groups_4),(8,.ptr 1 0),(9,.ptr 2 0),(10,i6 r_7.1),(11,i6 (IntKind.i64.wrap (i_13 + 1)))]) ⟨[(C_bk_Drum r_22.2),[.nils,.nils,.nils,i6 0],[.sl (l_24.map (AV.int .i64)) (some 0),.nils,.nils,i6 r_6.1]],[(l_24.length,1),(3,1),(1,1)]⟩ ?_
     dsimp only
     exact ⟨_,_,forgetA (m:=142) 3 [0] [(0,.ptr 0 0),(2,i6 streets_3),(3,i6 groups_4),(8,.ptr 1 0),(9,.ptr 2 0),(10,i6 r_7.1),(11,i6 (IntKind.i64.wrap (i_13 + 1)))] [(C_bk_Drum r_22.2),[.nils,.nils,.nils,i6 0],[.sl (l_24.map (AV.int .i64)) (some 0),.nils,.nils,i6 r_6.1]] [(l_24.length,1)] (by simp [setAll]) (by simp) ⟨rfl,rfl,rfl,rfl,rfl,rfl,rfl,trivial⟩ (by simp) rfl (by decide),k,Nat.lt_succ_self k,(IntKind.i64.wrap (i_13 + 1)),r_22.2.beat_,l_24,h,rfl,rfl⟩
   ·refine Ex.condF _ rfl hc_19 ?_
    refine Ex.exit ?_
    (try simp only [reduceCtorEq,AEx.ex.injEq,Nat.reduceEqDiff,if_true,if_false])
    exact ⟨_,_,forgetK [0,2,3,8,9,10],b_14,b_15,h,rfl,rfl⟩
 ·rintro a S ⟨b_8,b_9,h,rfl,rfl⟩
  subst hK_12
  refine Ex.seq (Ex.seq ?_)
  obtain ⟨r_25,hr_25,h⟩:=bE h
  refine Ex.reg (rn 3 [0,3,8,9,10,46,48] (mkS 142 [(0,.ptr 0 0),(3,i6 groups_4),(8,.ptr 1 0),(9,.ptr 2 0),(10,i6 r_7.1),(46,.ptr 0 0),(48,i6 (IntKind.i64.wrap (streets_3 + 1)))]) ⟨[[.int .u64 b_8],[.nils,.nils,.nils,i6 0],[.sl (b_9.map (AV.int .i64)) (some 0),.nils,.nils,i6 r_6.1]],[(b_9.length,1)]⟩ ?_)
  refine ExO.callL [0] [.ptr 0 0,i6 (IntKind.i64.wrap (streets_3 + 1))] rfl rfl (by simp; try rfl) rfl (by simp) (d_bk_Drum_Roll N (⟨b_8⟩ : T_bk_Drum) (IntKind.i64.wrap (streets_3 + 1)) r_25 hr_25) (b_bk_Drum_Roll _ _ _ _) (by simp) ?_
  refine rn 1 [0,3,8,9,10,12] (mkS 142 [(0,.ptr 0 0),(3,i6 groups_4),(8,.ptr 1 0),(9,.ptr 2 0),(10,i6 r_7.1),(12,i6 r_25.1)]) ⟨[(C_bk_Drum r_25.2),[.nils,.nils,.nils,i6 0],[.sl (b_9.map (AV.int .i64)) (some 0),.nils,.nils,i6 r_6.1]],[(b_9.length,1)]⟩ ?_
  refine ExO.nil ?_
  obtain ⟨K_29,hK_30,h⟩:=letE h
  refine Ex.blockJ (fun a S => ∃ (b_26 : Int),∃ (b_27 : List T_Street),K_29 b_26 b_27 = some r ∧ a = mkS 142 [(0,.ptr 0 0),(3,i6 groups_4),(8,.ptr 1 0),(9,.ptr 2 0),(10,i6 r_7.1)] ∧ S = ⟨[[.int .u64 b_26],[.nils,.nils,.nils,i6 0],[.sl (b_9.map (AV.int .i64)) (some 0),.sl (b_27.map A_Street) (some 1),.nils,i6 r_6.1]],[(b_9.length,1),(b_27.length,2)]⟩) ?_ ?_
  ·refine Ex.forget (nilB 2 1 2 [.sl (b_9.map (AV.int .i64)) (some 0),.nils,.nils,i6 r_6.1] rfl rfl) ?_
   refine Ex.castA (a2:=mkS 142 [(0,.ptr 0 0),(3,i6 groups_4),(8,.ptr 1 0),(9,.ptr 2 0),(10,i6 r_7.1),(12,i6 r_25.1)]) (S2:=⟨[(C_bk_Drum r_25.2),[.nils,.nils,.nils,i6 0],[.sl (b_9.map (AV.int .i64)) (some 0),.sl (([] : List T_Street).map A_Street) (some 1),.nils,i6 r_6.1]],[(b_9.length,1),(0,2)]⟩) (by kernel_rfl) (by kernel_rfl) ?_
   obtain ⟨B_35,hB_36,h⟩:=loop3I h
   refine Ex.loopF (fun k a S => ∃ (i_31 : Int),∃ (b_32 : Int),∃ (b_33 : List T_Street),loop3 B_35 k i_31 b_32 b_33 = some r ∧ a = mkS 142 [(0,.ptr 0 0),(3,i6 groups_4),(8,.ptr 1 0),(9,.ptr 2 0),(10,i6 r_7.1),(12,i6 i_31)] ∧ S = ⟨[[.int .u64 b_32],[.nils,.nils,.nils,i6 0],[.sl (b_9.map (AV.int .i64)) (some 0),.sl (b_33.map A_Street) (some 1),.nils,i6 r_6.1]],[(b_9.length,1),(b_33.length,2)]⟩) N ⟨_,_,Forgets.refl _ _ _,r_25.1,r_25.2.beat_,[],h,rfl,rfl⟩ ?_
   rintro k a S ⟨i_31,b_32,b_33,h,rfl,rfl⟩
   cases k with
   | zero => exact (loop3Z h).elim
   | succ k =>
    replace h:=loop3S h hB_36
    refine Ex.seq ?_
    obtain ⟨K_39,hK_40,h⟩:=letE h
    refine Ex.seqJ (fun a S => ∃ (y_37 : Bool),K_39 y_37 = some r ∧ a = mkS 142 [(0,.ptr 0 0),(3,i6 groups_4),(8,.ptr 1 0),(9,.ptr 2 0),(10,i6 r_7.1),(12,i6 i_31),(55,.bool y_37)] ∧ S = ⟨[[.int .u64 b_32],[.nils,.nils,.nils,i6 0],[.sl (b_9.map (AV.int .i64)) (some 0),.sl (b_33.map A_Street) (some 1),.nils,i6 r_6.1]],[(b_9.length,1),(b_33.length,2)]⟩) ?_ ?_
    ·rcases condI h with ⟨hc_41,h⟩ | ⟨hc_41,h⟩
     ·refine regH 6 [(2, .eq (.bool true))] [0, 3, 8, 9, 10, 12, 55] [AV.bool (decide (i_31 > 0)) = AV.bool true] (mkS 142 [(0, .ptr 0 0), (3, i6 groups_4), (8, .ptr 1 0), (9, .ptr 2 0), (10, i6 r_7.1), (12, i6 i_31), (55, .bool (decide (r_7.1 > 1)))]) (⟨[[.int .u64 b_32], [.nils, .nils, .nils, i6 0], [.sl (b_9.map (AV.int .i64)) (some 0), .sl (b_33.map A_Street) (some 1), .nils, i6 r_6.1]], [(b_9.length, 1), (b_33.length, 2)]⟩) (by kernel_rfl) ⟨congrArg AV.bool hc_41, trivial⟩ rfl ?_
      (try simp only [reduceCtorEq,AEx.ex.injEq,Nat.reduceEqDiff,if_true,if_false])
      exact ⟨_,_,Forgets.refl _ _ _,(decide (r_7.1 > 1)),h,rfl,rfl⟩
     ·refine regH 6 [(2, .eq (.bool false))] [0, 3, 8, 9, 10, 12, 55] [AV.bool (decide (i_31 > 0)) = AV.bool false] (mkS 142 [(0, .ptr 0 0), (3, i6 groups_4), (8, .ptr 1 0), (9, .ptr 2 0), (10, i6 r_7.1), (12, i6 i_31), (55, .bool false)]) (⟨[[.int .u64 b_32], [.nils, .nils, .nils, i6 0], [.sl (b_9.map (AV.int .i64)) (some 0), .sl (b_33.map A_Street) (some 1), .nils, i6 r_6.1]], [(b_9.length, 1), (b_33.length, 2)]⟩) (by kernel_rfl) ⟨congrArg AV.bool hc_41, trivial⟩ rfl ?_
      (try simp only [reduceCtorEq,AEx.ex.injEq,Nat.reduceEqDiff,if_true,if_false])
      exact ⟨_,_,Forgets.refl _ _ _,false,h,rfl,rfl⟩
    ·rintro a S ⟨y_37,h,rfl,rfl⟩
     subst hK_40
     rcases condI h with ⟨hc_42,h⟩ | ⟨hc_42,h⟩
     ·refine Ex.condT _ rfl hc_42 ?_
      refine Ex.skip ?_
      refine Ex.seq ?_
      refine Ex.blockK ?_
      refine Ex.seq ?_
      obtain ⟨r_43,hr_43,h⟩:=bE h
      refine Ex.reg (rn 2 [0,3,8,9,10,12,58,59] (mkS 142 [(0,.ptr 0 0),(3,i6 groups_4),(8,.ptr 1 0),(9,.ptr 2 0),(10,i6 r_7.1),(12,i6 i_31),(58,.ptr 0 0),(59,i6 r_7.1)]) ⟨[[.int .u64 b_32],[.nils,.nils,.nils,i6 0],[.sl (b_9.map (AV.int .i64)) (some 0),.sl (b_33.map A_Street) (some 1),.nils,i6 r_6.1]],[(b_9.length,1),(b_33.length,2)]⟩ ?_)
      refine ExO.callL [0] [.ptr 0 0,i6 r_7.1] rfl rfl (by simp; try rfl) rfl (by simp) (d_bk_Drum_Roll N (⟨b_32⟩ : T_bk_Drum) r_7.1 r_43 hr_43) (b_bk_Drum_Roll _ _ _ _) (by simp) ?_
      refine rn 1 [0,3,8,9,10,12,13] (mkS 142 [(0,.ptr 0 0),(3,i6 groups_4),(8,.ptr 1 0),(9,.ptr 2 0),(10,i6 r_7.1),(12,i6 i_31),(13,i6 r_43.1)]) ⟨[(C_bk_Drum r_43.2),[.nils,.nils,.nils,i6 0],[.sl (b_9.map (AV.int .i64)) (some 0),.sl (b_33.map A_Street) (some 1),.nils,i6 r_6.1]],[(b_9.length,1),(b_33.length,2)]⟩ ?_
      refine ExO.nil ?_
      obtain ⟨r_44,hr_44,h⟩:=bE h
      obtain ⟨r_45,hr_45,h⟩:=bE h
      have hT_46 : DoesA Tryd.prog [⟨16,[.ptr 0 0,i6 1,i6 (IntKind.i64.wrap (r_7.1 - 1))],[(C_bk_Drum r_43.2)],(v_bk_Drum_Mid r_44),[(C_bk_Drum r_44.2)]⟩,⟨30,[i6 (IntKind.i64.wrap (r_43.1 + r_44.1)),i6 r_7.1],[],(v_bk_Fit r_45),[]⟩] ∧ ConsA [⟨16,[.ptr 0 0,i6 1,i6 (IntKind.i64.wrap (r_7.1 - 1))],[(C_bk_Drum r_43.2)],(v_bk_Drum_Mid r_44),[(C_bk_Drum r_44.2)]⟩,⟨30,[i6 (IntKind.i64.wrap (r_43.1 + r_44.1)),i6 r_7.1],[],(v_bk_Fit r_45),[]⟩]:=⟨⟨(d_bk_Drum_Mid N r_43.2 1 (IntKind.i64.wrap (r_7.1 - 1)) r_44 hr_44),rfl,(d_bk_Fit N (IntKind.i64.wrap (r_43.1 + r_44.1)) r_7.1 r_45 hr_45),rfl,trivial⟩,⟨⟨ConsR.ne rfl,trivial⟩,trivial,trivial⟩⟩
      refine Ex.drawE (a1:=mkS 142 [(0,.ptr 0 0),(3,i6 groups_4),(8,.ptr 1 0),(9,.ptr 2 0),(10,i6 r_7.1),(12,i6 i_31),(13,i6 r_43.1),(61,.ptr 2 1),(62,.sl (b_33.map A_Street) (some 1)),(63,i6 r_43.1),(64,i6 r_43.1),(65,.ptr 0 0),(66,i6 r_7.1),(67,i6 (IntKind.i64.wrap (r_7.1 - 1))),(68,i6 r_44.1),(69,i6 (IntKind.i64.wrap (r_43.1 + r_44.1))),(70,i6 r_7.1),(71,i6 r_45),(72,.agg [i6 r_43.1,i6 r_45]),(73,.sl (([(⟨r_43.1,r_45⟩ : T_Street)] : List T_Street).map A_Street) (some 2))]) (tabO_ok hT_46.1) [] [(1,2)] [⟨[(C_bk_Drum r_44.2),[.nils,.nils,.nils,i6 0],[.sl (b_9.map (AV.int .i64)) (some 0),.sl (b_33.map A_Street) (some 1),.nils,i6 r_6.1]],[(b_9.length,1),(b_33.length,2),(1,2)]⟩] ?_ ?_
      ·refine drS [1, 2] 7 [] [] (mkS 142 [(0, .ptr 0 0), (3, i6 groups_4), (8, .ptr 1 0), (9, .ptr 2 0), (10, i6 r_7.1), (12, i6 i_31), (13, i6 r_43.1), (61, .ptr 2 1), (62, .sl (b_33.map A_Street) (some 1)), (63, i6 r_43.1), (64, i6 r_43.1), (65, .ptr 0 0), (66, i6 r_7.1), (67, i6 (IntKind.i64.wrap (r_7.1 - 1)))]) (by simp) (by kernel_rfl) trivial (by kernel_rfl) ?_
       refine drB hT_46.2 0 _ [0] [.ptr 0 0,i6 1,i6 (IntKind.i64.wrap (r_7.1 - 1))] (v_bk_Drum_Mid r_44) _ _ rfl rfl rfl rfl rfl rfl rfl rfl (by simp; try rfl) rfl (by simp) (b_bk_Drum_Mid _ _ _ _) (by simp) rfl ?_
       refine drS [1,2] 2 [] [] (mkS 142 [(0,.ptr 0 0),(3,i6 groups_4),(8,.ptr 1 0),(9,.ptr 2 0),(10,i6 r_7.1),(12,i6 i_31),(13,i6 r_43.1),(61,.ptr 2 1),(62,.sl (b_33.map A_Street) (some 1)),(63,i6 r_43.1),(64,i6 r_43.1),(65,.ptr 0 0),(66,i6 r_7.1),(67,i6 (IntKind.i64.wrap (r_7.1 - 1))),(68,i6 r_44.1),(69,i6 (IntKind.i64.wrap (r_43.1 + r_44.1))),(70,i6 r_7.1)]) (by simp) (by kernel_rfl) trivial (by kernel_rfl) ?_
       refine drC hT_46.2 1 _ [i6 (IntKind.i64.wrap (r_43.1 + r_44.1)),i6 r_7.1] (v_bk_Fit r_45) rfl rfl rfl rfl rfl (fun _ => rfl) rfl (by simp; try rfl) (fun _ => b_bk_Fit _ _ _ _) ?_
       refine drS [1,2] 1 [] [] (mkS 142 [(0,.ptr 0 0),(3,i6 groups_4),(8,.ptr 1 0),(9,.ptr 2 0),(10,i6 r_7.1),(12,i6 i_31),(13,i6 r_43.1),(61,.ptr 2 1),(62,.sl (b_33.map A_Street) (some 1)),(63,i6 r_43.1),(64,i6 r_43.1),(65,.ptr 0 0),(66,i6 r_7.1),(67,i6 (IntKind.i64.wrap (r_7.1 - 1))),(68,i6 r_44.1),(69,i6 (IntKind.i64.wrap (r_43.1 + r_44.1))),(70,i6 r_7.1),(71,i6 r_45),(72,.agg [i6 r_43.1,i6 r_45])]) (by simp) (by kernel_rfl) trivial (by kernel_rfl) ?_
       refine drR 2 2 (([(⟨r_43.1,r_45⟩ : T_Street)] : List T_Street).map A_Street) rfl rfl (fun _ => by kernel_rfl) (by simp) rfl rfl ?_
       exact DrO.nil rfl
      ·dsimp only [List.getLastD_cons,List.getLastD_nil]
       obtain ⟨l_47,hl_47,h⟩:=bE h
       refine runH 3 [(0,.app (l_47.map A_Street) l_47.length)] [0,3,8,9,10,12] [LApp b_33.length (b_33.map A_Street) (([(⟨r_43.1,r_45⟩ : T_Street)] : List T_Street).map A_Street) 2 (l_47.map A_Street) l_47.length] (mkS 142 [(0,.ptr 0 0),(3,i6 groups_4),(8,.ptr 1 0),(9,.ptr 2 0),(10,i6 r_7.1),(12,i6 i_31)]) (⟨[(C_bk_Drum r_44.2),[.nils,.nils,.nils,i6 0],[.sl (b_9.map (AV.int .i64)) (some 0),.sl (l_47.map A_Street) (some 1),.nils,i6 r_6.1]],[(b_9.length,1),(l_47.length,2),(1,2)]⟩) (by kernel_rfl) ⟨LApp.of hl_47 (fun _ => rfl),trivial⟩ ?_
       refine ExO.nil ?_
       refine rg 3 [0,3,8,9,10,12] (mkS 142 [(0,.ptr 0 0),(3,i6 groups_4),(8,.ptr 1 0),(9,.ptr 2 0),(10,i6 r_7.1),(12,i6 (IntKind.i64.wrap (i_31 - 1)))]) ⟨[(C_bk_Drum r_44.2),[.nils,.nils,.nils,i6 0],[.sl (b_9.map (AV.int .i64)) (some 0),.sl (l_47.map A_Street) (some 1),.nils,i6 r_6.1]],[(b_9.length,1),(l_47.length,2),(1,2)]⟩ ?_
       dsimp only
       exact ⟨_,_,forgetA (m:=142) 3 [0,1] [(0,.ptr 0 0),(3,i6 groups_4),(8,.ptr 1 0),(9,.ptr 2 0),(10,i6 r_7.1),(12,i6 (IntKind.i64.wrap (i_31 - 1)))] [(C_bk_Drum r_44.2),[.nils,.nils,.nils,i6 0],[.sl (b_9.map (AV.int .i64)) (some 0),.sl (l_47.map A_Street) (some 1),.nils,i6 r_6.1]] [(b_9.length,1),(l_47.length,2)] (by simp [setAll]) (by simp) ⟨rfl,rfl,rfl,rfl,rfl,rfl,trivial⟩ (by simp) rfl (by decide),k,Nat.lt_succ_self k,(IntKind.i64.wrap (i_31 - 1)),r_44.2.beat_,l_47,h,rfl,rfl⟩
     ·refine Ex.condF _ rfl hc_42 ?_
      refine Ex.exit ?_
      (try simp only [reduceCtorEq,AEx.ex.injEq,Nat.reduceEqDiff,if_true,if_false])
      exact ⟨_,_,forgetK [0,3,8,9,10],b_32,b_33,h,rfl,rfl⟩
  ·rintro a S ⟨b_26,b_27,h,rfl,rfl⟩
   subst hK_30
   refine Ex.seq (Ex.seq ?_)
   obtain ⟨r_48,hr_48,h⟩:=bE h
   refine Ex.reg (rn 3 [0,8,9,10,76,78] (mkS 142 [(0,.ptr 0 0),(8,.ptr 1 0),(9,.ptr 2 0),(10,i6 r_7.1),(76,.ptr 0 0),(78,i6 (IntKind.i64.wrap (groups_4 + 1)))]) ⟨[[.int .u64 b_26],[.nils,.nils,.nils,i6 0],[.sl (b_9.map (AV.int .i64)) (some 0),.sl (b_27.map A_Street) (some 1),.nils,i6 r_6.1]],[(b_9.length,1),(b_27.length,2)]⟩ ?_)
   refine ExO.callL [0] [.ptr 0 0,i6 (IntKind.i64.wrap (groups_4 + 1))] rfl rfl (by simp; try rfl) rfl (by simp) (d_bk_Drum_Roll N (⟨b_26⟩ : T_bk_Drum) (IntKind.i64.wrap (groups_4 + 1)) r_48 hr_48) (b_bk_Drum_Roll _ _ _ _) (by simp) ?_
   refine rn 1 [0,8,9,10,14] (mkS 142 [(0,.ptr 0 0),(8,.ptr 1 0),(9,.ptr 2 0),(10,i6 r_7.1),(14,i6 r_48.1)]) ⟨[(C_bk_Drum r_48.2),[.nils,.nils,.nils,i6 0],[.sl (b_9.map (AV.int .i64)) (some 0),.sl (b_27.map A_Street) (some 1),.nils,i6 r_6.1]],[(b_9.length,1),(b_27.length,2)]⟩ ?_
   refine ExO.nil ?_
   obtain ⟨K_52,hK_53,h⟩:=letE h
   refine Ex.blockJ (fun a S => ∃ (b_49 : Int),∃ (b_50 : List T_Group),K_52 b_49 b_50 = some r ∧ a = mkS 142 [(8,.ptr 1 0),(9,.ptr 2 0)] ∧ S = ⟨[[.int .u64 b_49],[.nils,.nils,.nils,i6 0],[.sl (b_9.map (AV.int .i64)) (some 0),.sl (b_27.map A_Street) (some 1),.sl (b_50.map A_Group) (some 2),i6 r_6.1]],[(b_9.length,1),(b_27.length,2),(b_50.length,7)]⟩) ?_ ?_
   ·refine Ex.forget (nilB 2 2 7 [.sl (b_9.map (AV.int .i64)) (some 0),.sl (b_27.map A_Street) (some 1),.nils,i6 r_6.1] rfl rfl) ?_
    refine Ex.castA (a2:=mkS 142 [(0,.ptr 0 0),(8,.ptr 1 0),(9,.ptr 2 0),(10,i6 r_7.1),(14,i6 r_48.1)]) (S2:=⟨[(C_bk_Drum r_48.2),[.nils,.nils,.nils,i6 0],[.sl (b_9.map (AV.int .i64)) (some 0),.sl (b_27.map A_Street) (some 1),.sl (([] : List T_Group).map A_Group) (some 2),i6 r_6.1]],[(b_9.length,1),(b_27.length,2),(0,7)]⟩) (by kernel_rfl) (by kernel_rfl) ?_
    obtain ⟨B_58,hB_59,h⟩:=loop3I h
    refine Ex.loopF (fun k a S => ∃ (i_54 : Int),∃ (b_55 : Int),∃ (b_56 : List T_Group),loop3 B_58 k i_54 b_55 b_56 = some r ∧ a = mkS 142 [(0,.ptr 0 0),(8,.ptr 1 0),(9,.ptr 2 0),(10,i6 r_7.1),(14,i6 i_54)] ∧ S = ⟨[[.int .u64 b_55],[.nils,.nils,.nils,i6 0],[.sl (b_9.map (AV.int .i64)) (some 0),.sl (b_27.map A_Street) (some 1),.sl (b_56.map A_Group) (some 2),i6 r_6.1]],[(b_9.length,1),(b_27.length,2),(b_56.length,7)]⟩) N ⟨_,_,Forgets.refl _ _ _,r_48.1,r_48.2.beat_,[],h,rfl,rfl⟩ ?_
    rintro k a S ⟨i_54,b_55,b_56,h,rfl,rfl⟩
    cases k with
    | zero => exact (loop3Z h).elim
    | succ k =>
     replace h:=loop3S h hB_59
     refine Ex.seq (Ex.seq ?_)
     refine rg 2 [0,8,9,10,14,81] (mkS 142 [(0,.ptr 0 0),(8,.ptr 1 0),(9,.ptr 2 0),(10,i6 r_7.1),(14,i6 i_54),(81,.bool (decide (i_54 > 0)))]) ⟨[[.int .u64 b_55],[.nils,.nils,.nils,i6 0],[.sl (b_9.map (AV.int .i64)) (some 0),.sl (b_27.map A_Street) (some 1),.sl (b_56.map A_Group) (some 2),i6 r_6.1]],[(b_9.length,1),(b_27.length,2),(b_56.length,7)]⟩ ?_
     rcases condI h with ⟨hc_60,h⟩ | ⟨hc_60,h⟩
     ·refine Ex.condT _ rfl hc_60 ?_
      refine Ex.skip ?_
      refine Ex.seq ?_
      refine Ex.blockK ?_
      refine Ex.seq ?_
      obtain ⟨r_61,hr_61,h⟩:=bE h
      refine Ex.reg (rn 3 [0,8,9,10,14,84,85,86] (mkS 142 [(0,.ptr 0 0),(8,.ptr 1 0),(9,.ptr 2 0),(10,i6 r_7.1),(14,i6 i_54),(84,.ptr 0 0),(85,.ptr 0 0),(86,.sl (([30,90] : List Int).map (AV.int .i64)) (some 3))]) ⟨[[.int .u64 b_55],[.nils,.nils,.nils,i6 0],[.sl (b_9.map (AV.int .i64)) (some 0),.sl (b_27.map A_Street) (some 1),.sl (b_56.map A_Group) (some 2),i6 r_6.1]],[(b_9.length,1),(b_27.length,2),(b_56.length,7),(2,1)]⟩ ?_)
      refine ExO.callL [0] [.ptr 0 0,.sl (([30,90] : List Int).map (AV.int .i64)) (some 3)] rfl rfl (by simp; try rfl) rfl (by simp) (d_bk_Drum_Any N (⟨b_55⟩ : T_bk_Drum) [30,90] r_61 hr_61) (b_bk_Drum_Any _ _ _ _) (by simp) ?_
      obtain ⟨r_62,hr_62,h⟩:=bE h
      refine ExO.callL [0] [.ptr 0 0,i6 0,i6 r_61.1] rfl rfl (by simp; try rfl) rfl (by simp) (d_bk_Drum_Span N r_61.2 0 r_61.1 r_62 hr_62) (b_bk_Drum_Span _ _ _ _) (by simp) ?_
      obtain ⟨r_63,hr_63,h⟩:=bE h
      refine rn 3 [0,8,9,10,14,88,89,90,91] (mkS 142 [(0,.ptr 0 0),(8,.ptr 1 0),(9,.ptr 2 0),(10,i6 r_7.1),(14,i6 i_54),(88,(A_Span r_62.1)),(89,.ptr 0 0),(90,.ptr 0 0),(91,.sl (([0,4] : List Int).map (AV.int .i64)) (some 4))]) ⟨[(C_bk_Drum r_62.2),[.nils,.nils,.nils,i6 0],[.sl (b_9.map (AV.int .i64)) (some 0),.sl (b_27.map A_Street) (some 1),.sl (b_56.map A_Group) (some 2),i6 r_6.1]],[(b_9.length,1),(b_27.length,2),(b_56.length,7),(2,1),(2,1)]⟩ ?_
      refine ExO.callL [0] [.ptr 0 0,.sl (([0,4] : List Int).map (AV.int .i64)) (some 4)] rfl rfl (by simp; try rfl) rfl (by simp) (d_bk_Drum_Any N r_62.2 [0,4] r_63 hr_63) (b_bk_Drum_Any _ _ _ _) (by simp) ?_
      obtain ⟨r_64,hr_64,h⟩:=bE h
      refine ExO.callL [0] [.ptr 0 0,i6 0,i6 r_63.1] rfl rfl (by simp; try rfl) rfl (by simp) (d_bk_Drum_Span N r_63.2 0 r_63.1 r_64 hr_64) (b_bk_Drum_Span _ _ _ _) (by simp) ?_
      obtain ⟨r_65,hr_65,h⟩:=bE h
      refine rn 1 [0,8,9,10,14,88,93,94] (mkS 142 [(0,.ptr 0 0),(8,.ptr 1 0),(9,.ptr 2 0),(10,i6 r_7.1),(14,i6 i_54),(88,(A_Span r_62.1)),(93,(A_Span r_64.1)),(94,.ptr 0 0)]) ⟨[(C_bk_Drum r_64.2),[.nils,.nils,.nils,i6 0],[.sl (b_9.map (AV.int .i64)) (some 0),.sl (b_27.map A_Street) (some 1),.sl (b_56.map A_Group) (some 2),i6 r_6.1]],[(b_9.length,1),(b_27.length,2),(b_56.length,7),(2,1),(2,1)]⟩ ?_
      refine ExO.callL [0] [.ptr 0 0,i6 1,i6 4] rfl rfl (by simp; try rfl) rfl (by simp) (d_bk_Drum_Mid N r_64.2 1 4 r_65 hr_65) (b_bk_Drum_Mid _ _ _ _) (by simp) ?_
      obtain ⟨r_66,hr_66,h⟩:=bE h
      refine rn 2 [0,8,9,10,14,88,93,95,96,97] (mkS 142 [(0,.ptr 0 0),(8,.ptr 1 0),(9,.ptr 2 0),(10,i6 r_7.1),(14,i6 i_54),(88,(A_Span r_62.1)),(93,(A_Span r_64.1)),(95,i6 r_65.1),(96,.ptr 0 0),(97,i6 r_7.1)]) ⟨[(C_bk_Drum r_65.2),[.nils,.nils,.nils,i6 0],[.sl (b_9.map (AV.int .i64)) (some 0),.sl (b_27.map A_Street) (some 1),.sl (b_56.map A_Group) (some 2),i6 r_6.1]],[(b_9.length,1),(b_27.length,2),(b_56.length,7),(2,1),(2,1)]⟩ ?_
      refine ExO.callL [0] [.ptr 0 0,i6 r_7.1] rfl rfl (by simp; try rfl) rfl (by simp) (d_bk_Drum_Roll N r_65.2 r_7.1 r_66 hr_66) (b_bk_Drum_Roll _ _ _ _) (by simp) ?_
      refine rn 3 [0,8,9,10,14,15] (mkS 142 [(0,.ptr 0 0),(8,.ptr 1 0),(9,.ptr 2 0),(10,i6 r_7.1),(14,i6 i_54),(15,.ptr 3 0)]) ⟨[(C_bk_Drum r_66.2),[.nils,.nils,.nils,i6 0],[.sl (b_9.map (AV.int .i64)) (some 0),.sl (b_27.map A_Street) (some 1),.sl (b_56.map A_Group) (some 2),i6 r_6.1],[i6 r_62.1.Lo,i6 r_62.1.Hi,i6 r_64.1.Lo,i6 r_64.1.Hi,i6 r_65.1,i6 r_66.1,.nils]],[(b_9.length,1),(b_27.length,2),(b_56.length,7),(2,1),(2,1)]⟩ ?_
      refine ExO.nil ?_
      refine Ex.seq (rg 3 [0,8,9,10,14,15,16] (mkS 142 [(0,.ptr 0 0),(8,.ptr 1 0),(9,.ptr 2 0),(10,i6 r_7.1),(14,i6 i_54),(15,.ptr 3 0),(16,i6 r_66.1)]) ⟨[(C_bk_Drum r_66.2),[.nils,.nils,.nils,i6 0],[.sl (b_9.map (AV.int .i64)) (some 0),.sl (b_27.map A_Street) (some 1),.sl (b_56.map A_Group) (some 2),i6 r_6.1],[i6 r_62.1.Lo,i6 r_62.1.Hi,i6 r_64.1.Lo,i6 r_64.1.Hi,i6 r_65.1,i6 r_66.1,.nils]],[(b_9.length,1),(b_27.length,2),(b_56.length,7),(2,1),(2,1)]⟩ ?_)
      refine Ex.seq (Ex.seq ?_)
      obtain ⟨r_67,hr_67,h⟩:=bE h
      refine Ex.reg (rn 1 [0,8,9,10,14,15,16,102] (mkS 142 [(0,.ptr 0 0),(8,.ptr 1 0),(9,.ptr 2 0),(10,i6 r_7.1),(14,i6 i_54),(15,.ptr 3 0),(16,i6 r_66.1),(102,.ptr 0 0)]) ⟨[(C_bk_Drum r_66.2),[.nils,.nils,.nils,i6 0],[.sl (b_9.map (AV.int .i64)) (some 0),.sl (b_27.map A_Street) (some 1),.sl (b_56.map A_Group) (some 2),i6 r_6.1],[i6 r_62.1.Lo,i6 r_62.1.Hi,i6 r_64.1.Lo,i6 r_64.1.Hi,i6 r_65.1,i6 r_66.1,.nils]],[(b_9.length,1),(b_27.length,2),(b_56.length,7),(2,1),(2,1)]⟩ ?_)
      refine ExO.callL [0] [.ptr 0 0,i6 5] rfl rfl (by simp; try rfl) rfl (by simp) (d_bk_Drum_Roll N r_66.2 5 r_67 hr_67) (b_bk_Drum_Roll _ _ _ _) (by simp) ?_
      refine rn 1 [0,8,9,10,14,15,16,17] (mkS 142 [(0,.ptr 0 0),(8,.ptr 1 0),(9,.ptr 2 0),(10,i6 r_7.1),(14,i6 i_54),(15,.ptr 3 0),(16,i6 r_66.1),(17,i6 r_67.1)]) ⟨[(C_bk_Drum r_67.2),[.nils,.nils,.nils,i6 0],[.sl (b_9.map (AV.int .i64)) (some 0),.sl (b_27.map A_Street) (some 1),.sl (b_56.map A_Group) (some 2),i6 r_6.1],[i6 r_62.1.Lo,i6 r_62.1.Hi,i6 r_64.1.Lo,i6 r_64.1.Hi,i6 r_65.1,i6 r_66.1,.nils]],[(b_9.length,1),(b_27.length,2),(b_56.length,7),(2,1),(2,1)]⟩ ?_
      refine ExO.nil ?_
      obtain ⟨K_71,hK_72,h⟩:=letE h
      refine Ex.blockJ (fun a S => ∃ (b_68 : Int),∃ (b_69 : List Int),K_71 b_68 b_69 = some r ∧ a = mkS 142 [(0,.ptr 0 0),(8,.ptr 1 0),(9,.ptr 2 0),(10,i6 r_7.1),(14,i6 i_54),(15,.ptr 3 0)] ∧ S = ⟨[[.int .u64 b_68],[.nils,.nils,.nils,i6 0],[.sl (b_9.map (AV.int .i64)) (some 0),.sl (b_27.map A_Street) (some 1),.sl (b_56.map A_Group) (some 2),i6 r_6.1],[i6 r_62.1.Lo,i6 r_62.1.Hi,i6 r_64.1.Lo,i6 r_64.1.Hi,i6 r_65.1,i6 r_66.1,.sl (b_69.map (AV.int .i64)) (some 3)]],[(b_9.length,1),(b_27.length,2),(b_56.length,7),(b_69.length,1)]⟩) ?_ ?_
      ·refine Ex.forget (nilB 3 6 1 [i6 r_62.1.Lo,i6 r_62.1.Hi,i6 r_64.1.Lo,i6 r_64.1.Hi,i6 r_65.1,i6 r_66.1,.nils] rfl rfl) ?_
       refine Ex.castA (a2:=mkS 142 [(0,.ptr 0 0),(8,.ptr 1 0),(9,.ptr 2 0),(10,i6 r_7.1),(14,i6 i_54),(15,.ptr 3 0),(16,i6 r_66.1),(17,i6 r_67.1)]) (S2:=⟨[(C_bk_Drum r_67.2),[.nils,.nils,.nils,i6 0],[.sl (b_9.map (AV.int .i64)) (some 0),.sl (b_27.map A_Street) (some 1),.sl (b_56.map A_Group) (some 2),i6 r_6.1],[i6 r_62.1.Lo,i6 r_62.1.Hi,i6 r_64.1.Lo,i6 r_64.1.Hi,i6 r_65.1,i6 r_66.1,.sl (([] : List Int).map (AV.int .i64)) (some 5)]],[(b_9.length,1),(b_27.length,2),(b_56.length,7),(2,1),(2,1),(0,1)]⟩) (by kernel_rfl) (by kernel_rfl) ?_
       obtain ⟨B_78,hB_79,h⟩:=loop4I h
       refine Ex.loopF (fun k a S => ∃ (at_73 : Int),∃ (k_74 : Int),∃ (b_75 : Int),∃ (b_76 : List Int),loop4 B_78 k at_73 k_74 b_75 b_76 = some r ∧ a = mkS 142 [(0,.ptr 0 0),(8,.ptr 1 0),(9,.ptr 2 0),(10,i6 r_7.1),(14,i6 i_54),(15,.ptr 3 0),(16,i6 at_73),(17,i6 k_74)] ∧ S = ⟨[[.int .u64 b_75],[.nils,.nils,.nils,i6 0],[.sl (b_9.map (AV.int .i64)) (some 0),.sl (b_27.map A_Street) (some 1),.sl (b_56.map A_Group) (some 2),i6 r_6.1],[i6 r_62.1.Lo,i6 r_62.1.Hi,i6 r_64.1.Lo,i6 r_64.1.Hi,i6 r_65.1,i6 r_66.1,.sl (b_76.map (AV.int .i64)) (some 3)]],[(b_9.length,1),(b_27.length,2),(b_56.length,7),(b_76.length,1)]⟩) N ⟨_,_,forgetA (m:=142) 4 [0,1,2,5] [(0,.ptr 0 0),(8,.ptr 1 0),(9,.ptr 2 0),(10,i6 r_7.1),(14,i6 i_54),(15,.ptr 3 0),(16,i6 r_66.1),(17,i6 r_67.1)] [(C_bk_Drum r_67.2),[.nils,.nils,.nils,i6 0],[.sl (b_9.map (AV.int .i64)) (some 0),.sl (b_27.map A_Street) (some 1),.sl (b_56.map A_Group) (some 2),i6 r_6.1],[i6 r_62.1.Lo,i6 r_62.1.Hi,i6 r_64.1.Lo,i6 r_64.1.Hi,i6 r_65.1,i6 r_66.1,.sl (([] : List Int).map (AV.int .i64)) (some 3)]] [(b_9.length,1),(b_27.length,2),(b_56.length,7),(0,1)] (by simp [setAll]) (by simp) ⟨rfl,rfl,rfl,rfl,rfl,rfl,rfl,rfl,trivial⟩ (by simp) rfl (by decide),r_66.1,r_67.1,r_67.2.beat_,[],h,rfl,rfl⟩ ?_
       rintro k a S ⟨at_73,k_74,b_75,b_76,h,rfl,rfl⟩
       cases k with
       | zero => exact (loop4Z h).elim
       | succ k =>
        replace h:=loop4S h hB_79
        refine Ex.seq ?_
        obtain ⟨K_82,hK_83,h⟩:=letE h
        refine Ex.seqJ (fun a S => ∃ (y_80 : Bool),K_82 y_80 = some r ∧ a = mkS 142 [(0,.ptr 0 0),(8,.ptr 1 0),(9,.ptr 2 0),(10,i6 r_7.1),(14,i6 i_54),(15,.ptr 3 0),(16,i6 at_73),(17,i6 k_74),(111,.bool y_80)] ∧ S = ⟨[[.int .u64 b_75],[.nils,.nils,.nils,i6 0],[.sl (b_9.map (AV.int .i64)) (some 0),.sl (b_27.map A_Street) (some 1),.sl (b_56.map A_Group) (some 2),i6 r_6.1],[i6 r_62.1.Lo,i6 r_62.1.Hi,i6 r_64.1.Lo,i6 r_64.1.Hi,i6 r_65.1,i6 r_66.1,.sl (b_76.map (AV.int .i64)) (some 3)]],[(b_9.length,1),(b_27.length,2),(b_56.length,7),(b_76.length,1)]⟩) ?_ ?_
        ·rcases condI h with ⟨hc_84,h⟩ | ⟨hc_84,h⟩
         ·refine regH 8 [(2, .eq (.bool true)), (5, .eq (i6 ((b_27.length : Nat) : Int)))] [0, 8, 9, 10, 14, 15, 16, 17, 111] [AV.bool (decide (k_74 > 0)) = AV.bool true, AV.int .i64 (((b_27.map A_Street).length : Nat) : Int) = AV.int .i64 ((b_27.length : Nat) : Int)] (mkS 142 [(0, .ptr 0 0), (8, .ptr 1 0), (9, .ptr 2 0), (10, i6 r_7.1), (14, i6 i_54), (15, .ptr 3 0), (16, i6 at_73), (17, i6 k_74), (111, .bool (decide (((b_27.length : Nat) : Int) > 0)))]) (⟨[[.int .u64 b_75], [.nils, .nils, .nils, i6 0], [.sl (b_9.map (AV.int .i64)) (some 0), .sl (b_27.map A_Street) (some 1), .sl (b_56.map A_Group) (some 2), i6 r_6.1], [i6 r_62.1.Lo, i6 r_62.1.Hi, i6 r_64.1.Lo, i6 r_64.1.Hi, i6 r_65.1, i6 r_66.1, .sl (b_76.map (AV.int .i64)) (some 3)]], [(b_9.length, 1), (b_27.length, 2), (b_56.length, 7), (b_76.length, 1)]⟩) (by kernel_rfl) ⟨congrArg AV.bool hc_84, lenM _ _, trivial⟩ rfl ?_
          (try simp only [reduceCtorEq,AEx.ex.injEq,Nat.reduceEqDiff,if_true,if_false])
          exact ⟨_,_,Forgets.refl _ _ _,(decide (((b_27.length : Nat) : Int) > 0)),h,rfl,rfl⟩
         ·refine regH 8 [(2, .eq (.bool false))] [0, 8, 9, 10, 14, 15, 16, 17, 111] [AV.bool (decide (k_74 > 0)) = AV.bool false] (mkS 142 [(0, .ptr 0 0), (8, .ptr 1 0), (9, .ptr 2 0), (10, i6 r_7.1), (14, i6 i_54), (15, .ptr 3 0), (16, i6 at_73), (17, i6 k_74), (111, .bool false)]) (⟨[[.int .u64 b_75], [.nils, .nils, .nils, i6 0], [.sl (b_9.map (AV.int .i64)) (some 0), .sl (b_27.map A_Street) (some 1), .sl (b_56.map A_Group) (some 2), i6 r_6.1], [i6 r_62.1.Lo, i6 r_62.1.Hi, i6 r_64.1.Lo, i6 r_64.1.Hi, i6 r_65.1, i6 r_66.1, .sl (b_76.map (AV.int .i64)) (some 3)]], [(b_9.length, 1), (b_27.length, 2), (b_56.length, 7), (b_76.length, 1)]⟩) (by kernel_rfl) ⟨congrArg AV.bool hc_84, trivial⟩ rfl ?_
          (try simp only [reduceCtorEq,AEx.ex.injEq,Nat.reduceEqDiff,if_true,if_false])
          exact ⟨_,_,Forgets.refl _ _ _,false,h,rfl,rfl⟩
        ·rintro a S ⟨y_80,h,rfl,rfl⟩
         subst hK_83
         rcases condI h with ⟨hc_85,h⟩ | ⟨hc_85,h⟩
         ·refine Ex.condT _ rfl hc_85 ?_
          refine Ex.skip ?_
          refine Ex.seq ?_
          obtain ⟨K_90,hK_91,h⟩:=letE h
          refine Ex.blockJ (fun a S => ∃ (at_86 : Int),∃ (b_87 : Int),∃ (b_88 : List Int),K_90 at_86 b_87 b_88 = some r ∧ a = mkS 142 [(0,.ptr 0 0),(8,.ptr 1 0),(9,.ptr 2 0),(10,i6 r_7.1),(14,i6 i_54),(15,.ptr 3 0),(16,i6 at_86),(17,i6 k_74)] ∧ S = ⟨[[.int .u64 b_87],[.nils,.nils,.nils,i6 0],[.sl (b_9.map (AV.int .i64)) (some 0),.sl (b_27.map A_Street) (some 1),.sl (b_56.map A_Group) (some 2),i6 r_6.1],[i6 r_62.1.Lo,i6 r_62.1.Hi,i6 r_64.1.Lo,i6 r_64.1.Hi,i6 r_65.1,i6 r_66.1,.sl (b_88.map (AV.int .i64)) (some 3)]],[(b_9.length,1),(b_27.length,2),(b_56.length,7),(b_88.length,1)]⟩) ?_ ?_
          ·refine Ex.seq ?_
           obtain ⟨r_92,hr_92,h⟩:=bE h
           refine Ex.reg ?_
           refine runH 4 [(3,.eq (i6 ((b_27.length : Nat) : Int)))] [0,8,9,10,14,15,16,17,114,117] [AV.int .i64 (((b_27.map A_Street).length : Nat) : Int) = AV.int .i64 ((b_27.length : Nat) : Int)] (mkS 142 [(0,.ptr 0 0),(8,.ptr 1 0),(9,.ptr 2 0),(10,i6 r_7.1),(14,i6 i_54),(15,.ptr 3 0),(16,i6 at_73),(17,i6 k_74),(114,.ptr 0 0),(117,i6 ((b_27.length : Nat) : Int))]) (⟨[[.int .u64 b_75],[.nils,.nils,.nils,i6 0],[.sl (b_9.map (AV.int .i64)) (some 0),.sl (b_27.map A_Street) (some 1),.sl (b_56.map A_Group) (some 2),i6 r_6.1],[i6 r_62.1.Lo,i6 r_62.1.Hi,i6 r_64.1.Lo,i6 r_64.1.Hi,i6 r_65.1,i6 r_66.1,.sl (b_76.map (AV.int .i64)) (some 3)]],[(b_9.length,1),(b_27.length,2),(b_56.length,7),(b_76.length,1)]⟩) (by kernel_rfl) ⟨lenM _ _,trivial⟩ ?_
           refine ExO.callL [0] [.ptr 0 0,i6 ((b_27.length : Nat) : Int)] rfl rfl (by simp; try rfl) rfl (by simp) (d_bk_Drum_Roll N (⟨b_75⟩ : T_bk_Drum) ((b_27.length : Nat) : Int) r_92 hr_92) (b_bk_Drum_Roll _ _ _ _) (by simp) ?_
           refine rn 1 [0,8,9,10,14,15,16,17,18] (mkS 142 [(0,.ptr 0 0),(8,.ptr 1 0),(9,.ptr 2 0),(10,i6 r_7.1),(14,i6 i_54),(15,.ptr 3 0),(16,i6 at_73),(17,i6 k_74),(18,i6 r_92.1)]) ⟨[(C_bk_Drum r_92.2),[.nils,.nils,.nils,i6 0],[.sl (b_9.map (AV.int .i64)) (some 0),.sl (b_27.map A_Street) (some 1),.sl (b_56.map A_Group) (some 2),i6 r_6.1],[i6 r_62.1.Lo,i6 r_62.1.Hi,i6 r_64.1.Lo,i6 r_64.1.Hi,i6 r_65.1,i6 r_66.1,.sl (b_76.map (AV.int .i64)) (some 3)]],[(b_9.length,1),(b_27.length,2),(b_56.length,7),(b_76.length,1)]⟩ ?_
           refine ExO.nil ?_
           refine Ex.seq ?_
           obtain ⟨x_93,hx_93,h⟩:=bE h
           obtain ⟨r_94,hr_94,h⟩:=bE h
           refine Ex.reg ?_
           refine runH 6 [(3,.rop (C_Street x_93))] [0,8,9,10,14,15,16,17,18,123,124] [LGet (b_27.map A_Street) r_92.1 2 (C_Street x_93)] (mkS 142 [(0,.ptr 0 0),(8,.ptr 1 0),(9,.ptr 2 0),(10,i6 r_7.1),(14,i6 i_54),(15,.ptr 3 0),(16,i6 at_73),(17,i6 k_74),(18,i6 r_92.1),(123,(A_Street x_93)),(124,i6 at_73)]) (⟨[(C_bk_Drum r_92.2),[.nils,.nils,.nils,i6 0],[.sl (b_9.map (AV.int .i64)) (some 0),.sl (b_27.map A_Street) (some 1),.sl (b_56.map A_Group) (some 2),i6 r_6.1],[i6 r_62.1.Lo,i6 r_62.1.Hi,i6 r_64.1.Lo,i6 r_64.1.Hi,i6 r_65.1,i6 r_66.1,.sl (b_76.map (AV.int .i64)) (some 3)]],[(b_9.length,1),(b_27.length,2),(b_56.length,7),(b_76.length,1)]⟩) (by kernel_rfl) ⟨LGet.of hx_93 rfl,trivial⟩ ?_
           refine ExO.callL [] [(A_Street x_93),i6 at_73] rfl rfl (a_br6_Other x_93 at_73) rfl rfl (d_br6_Other N x_93 at_73 r_94 hr_94) (b_br6_Other _ _ _ _) rfl ?_
           refine rn 1 [0,8,9,10,14,15,16,17,18,19] (mkS 142 [(0,.ptr 0 0),(8,.ptr 1 0),(9,.ptr 2 0),(10,i6 r_7.1),(14,i6 i_54),(15,.ptr 3 0),(16,i6 at_73),(17,i6 k_74),(18,i6 r_92.1),(19,i6 r_94)]) ⟨[(C_bk_Drum r_92.2),[.nils,.nils,.nils,i6 0],[.sl (b_9.map (AV.int .i64)) (some 0),.sl (b_27.map A_Street) (some 1),.sl (b_56.map A_Group) (some 2),i6 r_6.1],[i6 r_62.1.Lo,i6 r_62.1.Hi,i6 r_64.1.Lo,i6 r_64.1.Hi,i6 r_65.1,i6 r_66.1,.sl (b_76.map (AV.int .i64)) (some 3)]],[(b_9.length,1),(b_27.length,2),(b_56.length,7),(b_76.length,1)]⟩ ?_
           refine ExO.nil ?_
           refine Ex.seq (rg 2 [0,8,9,10,14,15,16,17,18,19,127] (mkS 142 [(0,.ptr 0 0),(8,.ptr 1 0),(9,.ptr 2 0),(10,i6 r_7.1),(14,i6 i_54),(15,.ptr 3 0),(16,i6 at_73),(17,i6 k_74),(18,i6 r_92.1),(19,i6 r_94),(127,.bool (decide (r_94 ≥ 0)))]) ⟨[(C_bk_Drum r_92.2),[.nils,.nils,.nils,i6 0],[.sl (b_9.map (AV.int .i64)) (some 0),.sl (b_27.map A_Street) (some 1),.sl (b_56.map A_Group) (some 2),i6 r_6.1],[i6 r_62.1.Lo,i6 r_62.1.Hi,i6 r_64.1.Lo,i6 r_64.1.Hi,i6 r_65.1,i6 r_66.1,.sl (b_76.map (AV.int .i64)) (some 3)]],[(b_9.length,1),(b_27.length,2),(b_56.length,7),(b_76.length,1)]⟩ ?_)
           rcases condI h with ⟨hc_95,h⟩ | ⟨hc_95,h⟩
           ·refine Ex.condT _ rfl hc_95 ?_
            obtain ⟨l_96,hl_96,h⟩:=bE h
            refine regH 9 [(4,.app (l_96.map (AV.int .i64)) l_96.length)] [0,8,9,10,14,15,16,17] [LApp b_76.length (b_76.map (AV.int .i64)) (([r_92.1] : List Int).map (AV.int .i64)) 1 (l_96.map (AV.int .i64)) l_96.length] (mkS 142 [(0,.ptr 0 0),(8,.ptr 1 0),(9,.ptr 2 0),(10,i6 r_7.1),(14,i6 i_54),(15,.ptr 3 0),(16,i6 r_94),(17,i6 k_74)]) (⟨[(C_bk_Drum r_92.2),[.nils,.nils,.nils,i6 0],[.sl (b_9.map (AV.int .i64)) (some 0),.sl (b_27.map A_Street) (some 1),.sl (b_56.map A_Group) (some 2),i6 r_6.1],[i6 r_62.1.Lo,i6 r_62.1.Hi,i6 r_64.1.Lo,i6 r_64.1.Hi,i6 r_65.1,i6 r_66.1,.sl (l_96.map (AV.int .i64)) (some 3)]],[(b_9.length,1),(b_27.length,2),(b_56.length,7),(l_96.length,1),(1,1)]⟩) (by kernel_rfl) ⟨LApp.of hl_96 (fun _ => rfl),trivial⟩ rfl ?_
            (try simp only [reduceCtorEq,AEx.ex.injEq,Nat.reduceEqDiff,if_true,if_false])
            exact ⟨_,_,forgetA (m:=142) 4 [0,1,2,3] [(0,.ptr 0 0),(8,.ptr 1 0),(9,.ptr 2 0),(10,i6 r_7.1),(14,i6 i_54),(15,.ptr 3 0),(16,i6 r_94),(17,i6 k_74)] [(C_bk_Drum r_92.2),[.nils,.nils,.nils,i6 0],[.sl (b_9.map (AV.int .i64)) (some 0),.sl (b_27.map A_Street) (some 1),.sl (b_56.map A_Group) (some 2),i6 r_6.1],[i6 r_62.1.Lo,i6 r_62.1.Hi,i6 r_64.1.Lo,i6 r_64.1.Hi,i6 r_65.1,i6 r_66.1,.sl (l_96.map (AV.int .i64)) (some 3)]] [(b_9.length,1),(b_27.length,2),(b_56.length,7),(l_96.length,1)] (by simp [setAll]) (by simp) ⟨rfl,rfl,rfl,rfl,rfl,rfl,rfl,rfl,trivial⟩ (by simp) rfl (by decide),r_94,r_92.2.beat_,l_96,h,rfl,rfl⟩
           ·refine Ex.condF _ rfl hc_95 ?_
            refine Ex.skip ?_
            (try simp only [reduceCtorEq,AEx.ex.injEq,Nat.reduceEqDiff,if_true,if_false])
            exact ⟨_,_,forgetK [0,8,9,10,14,15,16,17],at_73,r_92.2.beat_,b_76,h,rfl,rfl⟩
          ·rintro a S ⟨at_86,b_87,b_88,h,rfl,rfl⟩
           subst hK_91
           refine rg 3 [0,8,9,10,14,15,16,17] (mkS 142 [(0,.ptr 0 0),(8,.ptr 1 0),(9,.ptr 2 0),(10,i6 r_7.1),(14,i6 i_54),(15,.ptr 3 0),(16,i6 at_86),(17,i6 (IntKind.i64.wrap (k_74 - 1)))]) ⟨[[.int .u64 b_87],[.nils,.nils,.nils,i6 0],[.sl (b_9.map (AV.int .i64)) (some 0),.sl (b_27.map A_Street) (some 1),.sl (b_56.map A_Group) (some 2),i6 r_6.1],[i6 r_62.1.Lo,i6 r_62.1.Hi,i6 r_64.1.Lo,i6 r_64.1.Hi,i6 r_65.1,i6 r_66.1,.sl (b_88.map (AV.int .i64)) (some 3)]],[(b_9.length,1),(b_27.length,2),(b_56.length,7),(b_88.length,1)]⟩ ?_
           dsimp only
           exact ⟨_,_,Forgets.refl _ _ _,k,Nat.lt_succ_self k,at_86,(IntKind.i64.wrap (k_74 - 1)),b_87,b_88,h,rfl,rfl⟩
         ·refine Ex.condF _ rfl hc_85 ?_
          refine Ex.exit ?_
          (try simp only [reduceCtorEq,AEx.ex.injEq,Nat.reduceEqDiff,if_true,if_false])
          exact ⟨_,_,forgetK [0,8,9,10,14,15],b_75,b_76,h,rfl,rfl⟩
      ·rintro a S ⟨b_68,b_69,h,rfl,rfl⟩
       subst hK_72
       refine Ex.postF ?_
       obtain ⟨l_97,hl_97,h⟩:=bE h
       refine regH 7 [(4,.app (l_97.map A_Group) l_97.length)] [0,8,9,10,14] [LApp b_56.length (b_56.map A_Group) (([(⟨r_62.1,r_64.1,r_65.1,r_66.1,b_69⟩ : T_Group)] : List T_Group).map A_Group) 7 (l_97.map A_Group) l_97.length] (mkS 142 [(0,.ptr 0 0),(8,.ptr 1 0),(9,.ptr 2 0),(10,i6 r_7.1),(14,i6 i_54)]) (⟨[[.int .u64 b_68],[.nils,.nils,.nils,i6 0],[.sl (b_9.map (AV.int .i64)) (some 0),.sl (b_27.map A_Street) (some 1),.sl (l_97.map A_Group) (some 2),i6 r_6.1],[i6 r_62.1.Lo,i6 r_62.1.Hi,i6 r_64.1.Lo,i6 r_64.1.Hi,i6 r_65.1,i6 r_66.1,.sl (b_69.map (AV.int .i64)) (some 3)]],[(b_9.length,1),(b_27.length,2),(l_97.length,7),(b_69.length,1),(1,7)]⟩) (by kernel_rfl) ⟨LApp.of hl_97 (fun _ => rfl),trivial⟩ rfl ?_
       refine ⟨mkS 142 [(0,.ptr 0 0),(8,.ptr 1 0),(9,.ptr 2 0),(10,i6 r_7.1),(14,i6 i_54)],⟨[[.int .u64 b_68],[.nils,.nils,.nils,i6 0],[.sl (b_9.map (AV.int .i64)) (some 0),.sl (b_27.map A_Street) (some 1),.sl (l_97.map A_Group) (some 2),i6 r_6.1],[i6 r_62.1.Lo,i6 r_62.1.Hi,i6 r_64.1.Lo,i6 r_64.1.Hi,i6 r_65.1,i6 r_66.1,.sl (b_69.map (AV.int .i64)) (some 3)]],[(b_9.length,1),(b_27.length,2),(l_97.length,7),(b_69.length,1),(1,7)]⟩,Forgets.refl _ _ _,?_⟩
       refine rg 3 [0,8,9,10,14] (mkS 142 [(0,.ptr 0 0),(8,.ptr 1 0),(9,.ptr 2 0),(10,i6 r_7.1),(14,i6 (IntKind.i64.wrap (i_54 - 1)))]) ⟨[[.int .u64 b_68],[.nils,.nils,.nils,i6 0],[.sl (b_9.map (AV.int .i64)) (some 0),.sl (b_27.map A_Street) (some 1),.sl (l_97.map A_Group) (some 2),i6 r_6.1],[i6 r_62.1.Lo,i6 r_62.1.Hi,i6 r_64.1.Lo,i6 r_64.1.Hi,i6 r_65.1,i6 r_66.1,.sl (b_69.map (AV.int .i64)) (some 3)]],[(b_9.length,1),(b_27.length,2),(l_97.length,7),(b_69.length,1),(1,7)]⟩ ?_
       dsimp only
       exact ⟨_,_,forgetA (m:=142) 3 [0,1,2] [(0,.ptr 0 0),(8,.ptr 1 0),(9,.ptr 2 0),(10,i6 r_7.1),(14,i6 (IntKind.i64.wrap (i_54 - 1)))] [[.int .u64 b_68],[.nils,.nils,.nils,i6 0],[.sl (b_9.map (AV.int .i64)) (some 0),.sl (b_27.map A_Street) (some 1),.sl (l_97.map A_Group) (some 2),i6 r_6.1]] [(b_9.length,1),(b_27.length,2),(l_97.length,7)] (by simp [setAll]) (by simp) ⟨rfl,rfl,rfl,rfl,rfl,trivial⟩ (by simp) rfl (by decide),k,Nat.lt_succ_self k,(IntKind.i64.wrap (i_54 - 1)),b_68,l_97,h,rfl,rfl⟩
     ·refine Ex.condF _ rfl hc_60 ?_
      refine Ex.exit ?_
      (try simp only [reduceCtorEq,AEx.ex.injEq,Nat.reduceEqDiff,if_true,if_false])
      exact ⟨_,_,forgetK [8,9],b_55,b_56,h,rfl,rfl⟩
   ·rintro a S ⟨b_49,b_50,h,rfl,rfl⟩
    subst hK_53
    refine Ex.seq (rg 2 [8] (mkS 142 [(8,.ptr 1 0)]) ⟨[[.int .u64 b_49],[.sl (b_9.map (AV.int .i64)) (some 0),.sl (b_27.map A_Street) (some 1),.sl (b_50.map A_Group) (some 2),i6 r_6.1],[.sl (b_9.map (AV.int .i64)) (some 0),.sl (b_27.map A_Street) (some 1),.sl (b_50.map A_Group) (some 2),i6 r_6.1]],[(b_9.length,1),(b_27.length,2),(b_50.length,7)]⟩ ?_)
    refine Ex.ret ?_
    obtain rfl:=sJ h
    exact rt (.agg [.sl (b_9.map (AV.int .i64)) (some 0),.sl (b_27.map A_Street) (some 1),.sl (b_50.map A_Group) (some 2),i6 r_6.1])
structure T_City where
 Town : T_Town
 Break : Int
 Sleep : (List Int)
 deriving Inhabited
def C_City (x : T_City) : List AV:=[.sl (x.Town.Rooms.map (AV.int .i64)) none,.sl (x.Town.Streets.map A_Street) none,.sl (x.Town.Groups.map A_Group) none,i6 x.Town.Steps,i6 x.Break,.sl (x.Sleep.map (AV.int .i64)) none]
attribute [local simp] C_City
def A_City (x : T_City) : AV:=.agg (C_City x)
attribute [local simp] A_City
theorem KC_City (x : T_City) : cleanL (C_City x) = true:=by simp
theorem KA_City (x : T_City) : (A_City x).clean = true:=KC_City x
theorem KL_City (l : List T_City) : cleanL (l.map A_City) = true:=cleanM KA_City l
attribute [local simp] KL_City
theorem KB_City (x : T_City) (n : Nat) (σ : List Nat) : (C_City x).mapM (re n σ) = some (C_City x):=by simp
attribute [local simp] KB_City
def p_bk_CityOf (N : Nat) (d_1 : T_bk_Drum) : Option (T_City × T_bk_Drum):=((p_bk_TownOf N d_1 4 5 1).bind fun r_2 => ((p_bk_Drum_Roll N r_2.2 10).bind fun r_3 => ((p_bk_Drum_Roll N r_3.2 60).bind fun r_4 => ((p_bk_Drum_Any N r_4.2 [0,1,r_3.1,r_4.1]).bind fun r_5 => (letJ (fun (b_6 : Int) (b_7 : List Int) => some ((⟨r_2.1,r_5.1,b_7⟩ : T_City),(⟨b_6⟩ : T_bk_Drum))) (fun k_8 => (loop3 (fun rec_14 (i_11 : Int) (b_12 : Int) (b_13 : List Int) => (bif (decide (i_11 < ((r_2.1.Rooms.length : Nat) : Int))) then ((p_bk_Drum_Roll N (⟨b_12⟩ : T_bk_Drum) 721).bind fun r_18 => ((p_bk_Drum_Mid N r_18.2 300 600).bind fun r_19 => ((p_bk_Drum_Any N r_19.2 [0,r_18.1,r_19.1]).bind fun r_20 => ((pushI b_13 ([r_20.1] : List Int)).bind fun l_22 => (rec_14 (IntKind.i64.wrap (i_11 + 1)) r_20.2.beat_ l_22))))) else (k_8 b_12 b_13))) N 0 r_5.2.beat_ [])))))))
def v_bk_CityOf (r : T_City × T_bk_Drum) : AV:=(A_City r.1)
attribute [local simp] v_bk_CityOf
theorem b_bk_CityOf (r : T_City × T_bk_Drum) (n n2 m : Nat) : back n n2 m (v_bk_CityOf r) = some (v_bk_CityOf r):=by simp
theorem d_bk_CityOf (N : Nat) (d_1 : T_bk_Drum) (r : T_City × T_bk_Drum) (h : p_bk_CityOf N d_1 = some r) : Does Tryd.prog 5 [.ptr 0 0] [(C_bk_Drum d_1)] fun v c => v = v_bk_CityOf r ∧ c = [(C_bk_Drum r.2)]:=by
 unfold p_bk_CityOf at h
 refine Does.ofL comp5 _ _ rfl rfl ?_
 refine Ex.seq (rg 1 [0,2] (mkS 36 [(0,.ptr 0 0),(2,.ptr 1 0)]) ⟨[(C_bk_Drum d_1),[.nils,.nils,.nils,i6 0,i6 0,.nils]],[]⟩ ?_)
 refine Ex.seq ?_
 obtain ⟨r_2,hr_2,h⟩:=bE h
 refine Ex.reg (rn 1 [0,2,5] (mkS 36 [(0,.ptr 0 0),(2,.ptr 1 0),(5,.ptr 0 0)]) ⟨[(C_bk_Drum d_1),[.nils,.nils,.nils,i6 0,i6 0,.nils]],[]⟩ ?_)
 refine ExO.callL [0] [.ptr 0 0,i6 4,i6 5,i6 1] rfl rfl (by simp; try rfl) rfl (by simp) (d_bk_TownOf N d_1 4 5 1 r_2 hr_2) (b_bk_TownOf _ _ _ _) (by simp) ?_
 obtain ⟨r_3,hr_3,h⟩:=bE h
 refine rn 2 [0,2,6,7,8] (mkS 36 [(0,.ptr 0 0),(2,.ptr 1 0),(6,(A_Town r_2.1)),(7,.ptr 0 0),(8,.ptr 0 0)]) ⟨[(C_bk_Drum r_2.2),[.nils,.nils,.nils,i6 0,i6 0,.nils]],[]⟩ ?_
 refine ExO.callL [0] [.ptr 0 0,i6 10] rfl rfl (by simp; try rfl) rfl (by simp) (d_bk_Drum_Roll N r_2.2 10 r_3 hr_3) (b_bk_Drum_Roll _ _ _ _) (by simp) ?_
 obtain ⟨r_4,hr_4,h⟩:=bE h
 refine rn 1 [0,2,6,7,9,10] (mkS 36 [(0,.ptr 0 0),(2,.ptr 1 0),(6,(A_Town r_2.1)),(7,.ptr 0 0),(9,i6 r_3.1),(10,.ptr 0 0)]) ⟨[(C_bk_Drum r_3.2),[.nils,.nils,.nils,i6 0,i6 0,.nils]],[]⟩ ?_
 refine ExO.callL [0] [.ptr 0 0,i6 60] rfl rfl (by simp; try rfl) rfl (by simp) (d_bk_Drum_Roll N r_3.2 60 r_4 hr_4) (b_bk_Drum_Roll _ _ _ _) (by simp) ?_
 obtain ⟨r_5,hr_5,h⟩:=bE h
 refine rn 1 [0,2,6,7,12] (mkS 36 [(0,.ptr 0 0),(2,.ptr 1 0),(6,(A_Town r_2.1)),(7,.ptr 0 0),(12,.sl (([0,1,r_3.1,r_4.1] : List Int).map (AV.int .i64)) (some 0))]) ⟨[(C_bk_Drum r_4.2),[.nils,.nils,.nils,i6 0,i6 0,.nils]],[(4,1)]⟩ ?_
 refine ExO.callL [0] [.ptr 0 0,.sl (([0,1,r_3.1,r_4.1] : List Int).map (AV.int .i64)) (some 0)] rfl rfl (by simp; try rfl) rfl (by simp) (d_bk_Drum_Any N r_4.2 [0,1,r_3.1,r_4.1] r_5 hr_5) (b_bk_Drum_Any _ _ _ _) (by simp) ?_
 refine rn 3 [0,2,3] (mkS 36 [(0,.ptr 0 0),(2,.ptr 1 0),(3,.ptr 2 0)]) ⟨[(C_bk_Drum r_5.2),[.nils,.nils,.nils,i6 0,i6 0,.nils],[.sl (r_2.1.Rooms.map (AV.int .i64)) none,.sl (r_2.1.Streets.map A_Street) none,.sl (r_2.1.Groups.map A_Group) none,i6 r_2.1.Steps,i6 r_5.1,.nils]],[(4,1)]⟩ ?_
 refine ExO.nil ?_
 refine Ex.seq (Ex.seq ?_)
 refine rg 1 [0,2,3,4] (mkS 36 [(0,.ptr 0 0),(2,.ptr 1 0),(3,.ptr 2 0),(4,i6 0)]) ⟨[(C_bk_Drum r_5.2),[.nils,.nils,.nils,i6 0,i6 0,.nils],[.sl (r_2.1.Rooms.map (AV.int .i64)) none,.sl (r_2.1.Streets.map A_Street) none,.sl (r_2.1.Groups.map A_Group) none,i6 r_2.1.Steps,i6 r_5.1,.nils]],[(4,1)]⟩ ?_
 obtain ⟨K_9,hK_10,h⟩:=letE h
 refine Ex.blockJ (fun a S => ∃ (b_6 : Int),∃ (b_7 : List Int),K_9 b_6 b_7 = some r ∧ a = mkS 36 [(2,.ptr 1 0),(3,.ptr 2 0)] ∧ S = ⟨[[.int .u64 b_6],[.nils,.nils,.nils,i6 0,i6 0,.nils],[.sl (r_2.1.Rooms.map (AV.int .i64)) none,.sl (r_2.1.Streets.map A_Street) none,.sl (r_2.1.Groups.map A_Group) none,i6 r_2.1.Steps,i6 r_5.1,.sl (b_7.map (AV.int .i64)) (some 0)]],[(b_7.length,1)]⟩) ?_ ?_
 ·refine Ex.forget (nilB 2 5 1 [.sl (r_2.1.Rooms.map (AV.int .i64)) none,.sl (r_2.1.Streets.map A_Street) none,.sl (r_2.1.Groups.map A_Group) none,i6 r_2.1.Steps,i6 r_5.1,.nils] rfl rfl) ?_
  refine Ex.castA (a2:=mkS 36 [(0,.ptr 0 0),(2,.ptr 1 0),(3,.ptr 2 0),(4,i6 0)]) (S2:=⟨[(C_bk_Drum r_5.2),[.nils,.nils,.nils,i6 0,i6 0,.nils],[.sl (r_2.1.Rooms.map (AV.int .i64)) none,.sl (r_2.1.Streets.map A_Street) none,.sl (r_2.1.Groups.map A_Group) none,i6 r_2.1.Steps,i6 r_5.1,.sl (([] : List Int).map (AV.int .i64)) (some 1)]],[(4,1),(0,1)]⟩) (by kernel_rfl) (by kernel_rfl) ?_
  obtain ⟨B_15,hB_16,h⟩:=loop3I h
  refine Ex.loopF (fun k a S => ∃ (i_11 : Int),∃ (b_12 : Int),∃ (b_13 : List Int),loop3 B_15 k i_11 b_12 b_13 = some r ∧ a = mkS 36 [(0,.ptr 0 0),(2,.ptr 1 0),(3,.ptr 2 0),(4,i6 i_11)] ∧ S = ⟨[[.int .u64 b_12],[.nils,.nils,.nils,i6 0,i6 0,.nils],[.sl (r_2.1.Rooms.map (AV.int .i64)) none,.sl (r_2.1.Streets.map A_Street) none,.sl (r_2.1.Groups.map A_Group) none,i6 r_2.1.Steps,i6 r_5.1,.sl (b_13.map (AV.int .i64)) (some 0)]],[(b_13.length,1)]⟩) N ⟨_,_,forgetA (m:=36) 3 [1] [(0,.ptr 0 0),(2,.ptr 1 0),(3,.ptr 2 0),(4,i6 0)] [(C_bk_Drum r_5.2),[.nils,.nils,.nils,i6 0,i6 0,.nils],[.sl (r_2.1.Rooms.map (AV.int .i64)) none,.sl (r_2.1.Streets.map A_Street) none,.sl (r_2.1.Groups.map A_Group) none,i6 r_2.1.Steps,i6 r_5.1,.sl (([] : List Int).map (AV.int .i64)) (some 0)]] [(0,1)] (by simp [setAll]) (by simp) ⟨rfl,rfl,rfl,rfl,trivial⟩ (by simp) rfl (by decide),0,r_5.2.beat_,[],h,rfl,rfl⟩ ?_
  rintro k a S ⟨i_11,b_12,b_13,h,rfl,rfl⟩
  cases k with
  | zero => exact (loop3Z h).elim
  | succ k =>
   replace h:=loop3S h hB_16
   refine Ex.seq (Ex.seq ?_)
   refine regH 6 [(4,.eq (i6 ((r_2.1.Rooms.length : Nat) : Int)))] [0,2,3,4,20] [AV.int .i64 (((r_2.1.Rooms.map (AV.int .i64)).length : Nat) : Int) = AV.int .i64 ((r_2.1.Rooms.length : Nat) : Int)] (mkS 36 [(0,.ptr 0 0),(2,.ptr 1 0),(3,.ptr 2 0),(4,i6 i_11),(20,.bool (decide (i_11 < ((r_2.1.Rooms.length : Nat) : Int))))]) (⟨[[.int .u64 b_12],[.nils,.nils,.nils,i6 0,i6 0,.nils],[.sl (r_2.1.Rooms.map (AV.int .i64)) none,.sl (r_2.1.Streets.map A_Street) none,.sl (r_2.1.Groups.map A_Group) none,i6 r_2.1.Steps,i6 r_5.1,.sl (b_13.map (AV.int .i64)) (some 0)]],[(b_13.length,1)]⟩) (by kernel_rfl) ⟨lenM _ _,trivial⟩ rfl ?_
   rcases condI h with ⟨hc_17,h⟩ | ⟨hc_17,h⟩
   ·refine Ex.condT _ rfl hc_17 ?_
    refine Ex.skip ?_
    refine Ex.seq ?_
    refine Ex.blockK ?_
    obtain ⟨r_18,hr_18,h⟩:=bE h
    obtain ⟨r_19,hr_19,h⟩:=bE h
    obtain ⟨r_20,hr_20,h⟩:=bE h
    have hT_21 : DoesA Tryd.prog [⟨10,[.ptr 0 0,i6 721],[[.int .u64 b_12]],(v_bk_Drum_Roll r_18),[(C_bk_Drum r_18.2)]⟩,⟨16,[.ptr 0 0,i6 300,i6 600],[(C_bk_Drum r_18.2)],(v_bk_Drum_Mid r_19),[(C_bk_Drum r_19.2)]⟩,⟨15,[.ptr 0 0,.sl (([0,r_18.1,r_19.1] : List Int).map (AV.int .i64)) none],[(C_bk_Drum r_19.2)],(v_bk_Drum_Any r_20),[(C_bk_Drum r_20.2)]⟩] ∧ ConsA [⟨10,[.ptr 0 0,i6 721],[[.int .u64 b_12]],(v_bk_Drum_Roll r_18),[(C_bk_Drum r_18.2)]⟩,⟨16,[.ptr 0 0,i6 300,i6 600],[(C_bk_Drum r_18.2)],(v_bk_Drum_Mid r_19),[(C_bk_Drum r_19.2)]⟩,⟨15,[.ptr 0 0,.sl (([0,r_18.1,r_19.1] : List Int).map (AV.int .i64)) none],[(C_bk_Drum r_19.2)],(v_bk_Drum_Any r_20),[(C_bk_Drum r_20.2)]⟩]:=⟨⟨(d_bk_Drum_Roll N (⟨b_12⟩ : T_bk_Drum) 721 r_18 hr_18),rfl,(d_bk_Drum_Mid N r_18.2 300 600 r_19 hr_19),rfl,(d_bk_Drum_Any N r_19.2 [0,r_18.1,r_19.1] r_20 hr_20),rfl,trivial⟩,⟨⟨ConsR.ne rfl,ConsR.ne rfl,trivial⟩,⟨ConsR.ne rfl,trivial⟩,trivial,trivial⟩⟩
    refine Ex.drawE (a1:=mkS 36 [(0,.ptr 0 0),(2,.ptr 1 0),(3,.ptr 2 0),(4,i6 i_11),(20,.bool (decide (i_11 < ((r_2.1.Rooms.length : Nat) : Int)))),(23,.ptr 2 5),(24,.sl (b_13.map (AV.int .i64)) (some 0)),(25,.ptr 0 0),(26,.ptr 0 0),(27,i6 r_18.1),(28,.ptr 0 0),(29,i6 r_19.1),(30,.sl (([0,r_18.1,r_19.1] : List Int).map (AV.int .i64)) (some 1)),(31,i6 r_20.1),(32,.sl (([r_20.1] : List Int).map (AV.int .i64)) (some 2))]) (tabO_ok hT_21.1) [] [(3,1),(1,1)] [⟨[(C_bk_Drum r_18.2),[.nils,.nils,.nils,i6 0,i6 0,.nils],[.sl (r_2.1.Rooms.map (AV.int .i64)) none,.sl (r_2.1.Streets.map A_Street) none,.sl (r_2.1.Groups.map A_Group) none,i6 r_2.1.Steps,i6 r_5.1,.sl (b_13.map (AV.int .i64)) (some 0)]],[(b_13.length,1),(3,1),(1,1)]⟩,⟨[(C_bk_Drum r_19.2),[.nils,.nils,.nils,i6 0,i6 0,.nils],[.sl (r_2.1.Rooms.map (AV.int .i64)) none,.sl (r_2.1.Streets.map A_Street) none,.sl (r_2.1.Groups.map A_Group) none,i6 r_2.1.Steps,i6 r_5.1,.sl (b_13.map (AV.int .i64)) (some 0)]],[(b_13.length,1),(3,1),(1,1)]⟩,⟨[(C_bk_Drum r_20.2),[.nils,.nils,.nils,i6 0,i6 0,.nils],[.sl (r_2.1.Rooms.map (AV.int .i64)) none,.sl (r_2.1.Streets.map A_Street) none,.sl (r_2.1.Groups.map A_Group) none,i6 r_2.1.Steps,i6 r_5.1,.sl (b_13.map (AV.int .i64)) (some 0)]],[(b_13.length,1),(3,1),(1,1)]⟩] ?_ ?_
    ·refine drS [1, 2] 4 [] [] (mkS 36 [(0, .ptr 0 0), (2, .ptr 1 0), (3, .ptr 2 0), (4, i6 i_11), (20, .bool (decide (i_11 < ((r_2.1.Rooms.length : Nat) : Int)))), (23, .ptr 2 5), (24, .sl (b_13.map (AV.int .i64)) (some 0)), (25, .ptr 0 0), (26, .ptr 0 0)]) (by simp) (by kernel_rfl) trivial (by kernel_rfl) ?_
     refine drB hT_21.2 0 _ [0] [.ptr 0 0,i6 721] (v_bk_Drum_Roll r_18) _ _ rfl rfl rfl rfl rfl rfl rfl rfl (by simp; try rfl) rfl (by simp) (b_bk_Drum_Roll _ _ _ _) (by simp) rfl ?_
     refine drS [1,2] 1 [] [] (mkS 36 [(0,.ptr 0 0),(2,.ptr 1 0),(3,.ptr 2 0),(4,i6 i_11),(20,.bool (decide (i_11 < ((r_2.1.Rooms.length : Nat) : Int)))),(23,.ptr 2 5),(24,.sl (b_13.map (AV.int .i64)) (some 0)),(25,.ptr 0 0),(26,.ptr 0 0),(27,i6 r_18.1),(28,.ptr 0 0)]) (by simp) (by kernel_rfl) trivial (by kernel_rfl) ?_
     refine drB hT_21.2 1 _ [0] [.ptr 0 0,i6 300,i6 600] (v_bk_Drum_Mid r_19) _ _ rfl rfl rfl rfl rfl rfl rfl rfl (by simp; try rfl) rfl (by simp) (b_bk_Drum_Mid _ _ _ _) (by simp) rfl ?_
     refine drR 1 1 (([0,r_18.1,r_19.1] : List Int).map (AV.int .i64)) rfl rfl (fun _ => by kernel_rfl) (by simp) rfl rfl ?_
     refine drB hT_21.2 2 _ [0] [.ptr 0 0,.sl (([0,r_18.1,r_19.1] : List Int).map (AV.int .i64)) (some 1)] (v_bk_Drum_Any r_20) _ _ rfl rfl rfl rfl rfl rfl rfl rfl (by simp; try rfl) rfl (by simp) (b_bk_Drum_Any _ _ _ _) (by simp) rfl ?_
     refine drR 2 1 (([r_20.1] : List Int).map (AV.int .i64)) rfl rfl (fun _ => by kernel_rfl) (by simp) rfl rfl ?_
     exact DrO.nil rfl
    ·dsimp only [List.getLastD_cons,List.getLastD_nil]
     obtain ⟨l_22,hl_22,h⟩:=bE h
     refine runH 3 [(0,.app (l_22.map (AV.int .i64)) l_22.length)] [0,2,3,4] [LApp b_13.length (b_13.map (AV.int .i64)) (([r_20.1] : List Int).map (AV.int .i64)) 1 (l_22.map (AV.int .i64)) l_22.length] (mkS 36 [(0,.ptr 0 0),(2,.ptr 1 0),(3,.ptr 2 0),(4,i6 i_11)]) (⟨[(C_bk_Drum r_20.2),[.nils,.nils,.nils,i6 0,i6 0,.nils],[.sl (r_2.1.Rooms.map (AV.int .i64)) none,.sl (r_2.1.Streets.map A_Street) none,.sl (r_2.1.Groups.map A_Group) none,i6 r_2.1.Steps,i6 r_5.1,.sl (l_22.map (AV.int .i64)) (some 0)]],[(l_22.length,1),(3,1),(1,1)]⟩) (by kernel_rfl) ⟨LApp.of hl_22 (fun _ => rfl),trivial⟩ ?_
     refine ExO.nil ?_
     refine rg 3 [0,2,3,4] (mkS 36 [(0,.ptr 0 0),(2,.ptr 1 0),(3,.ptr 2 0),(4,i6 (IntKind.i64.wrap (i_11 + 1)))]) ⟨[(C_bk_Drum r_20.2),[.nils,.nils,.nils,i6 0,i6 0,.nils],[.sl (r_2.1.Rooms.map (AV.int .i64)) none,.sl (r_2.1.Streets.map A_Street) none,.sl (r_2.1.Groups.map A_Group) none,i6 r_2.1.Steps,i6 r_5.1,.sl (l_22.map (AV.int .i64)) (some 0)]],[(l_22.length,1),(3,1),(1,1)]⟩ ?_
     dsimp only
     exact ⟨_,_,forgetA (m:=36) 3 [0] [(0,.ptr 0 0),(2,.ptr 1 0),(3,.ptr 2 0),(4,i6 (IntKind.i64.wrap (i_11 + 1)))] [(C_bk_Drum r_20.2),[.nils,.nils,.nils,i6 0,i6 0,.nils],[.sl (r_2.1.Rooms.map (AV.int .i64)) none,.sl (r_2.1.Streets.map A_Street) none,.sl (r_2.1.Groups.map A_Group) none,i6 r_2.1.Steps,i6 r_5.1,.sl (l_22.map (AV.int .i64)) (some 0)]] [(l_22.length,1)] (by simp [setAll]) (by simp) ⟨rfl,rfl,rfl,rfl,trivial⟩ (by simp) rfl (by decide),k,Nat.lt_succ_self k,(IntKind.i64.wrap (i_11 + 1)),r_20.2.beat_,l_22,h,rfl,rfl⟩
   ·refine Ex.condF _ rfl hc_17 ?_
    refine Ex.exit ?_
    (try simp only [reduceCtorEq,AEx.ex.injEq,Nat.reduceEqDiff,if_true,if_false])
    exact ⟨_,_,forgetK [2,3],b_12,b_13,h,rfl,rfl⟩
 ·rintro a S ⟨b_6,b_7,h,rfl,rfl⟩
  subst hK_10
  refine Ex.seq (rg 2 [2] (mkS 36 [(2,.ptr 1 0)]) ⟨[[.int .u64 b_6],[.sl (r_2.1.Rooms.map (AV.int .i64)) none,.sl (r_2.1.Streets.map A_Street) none,.sl (r_2.1.Groups.map A_Group) none,i6 r_2.1.Steps,i6 r_5.1,.sl (b_7.map (AV.int .i64)) (some 0)],[.sl (r_2.1.Rooms.map (AV.int .i64)) none,.sl (r_2.1.Streets.map A_Street) none,.sl (r_2.1.Groups.map A_Group) none,i6 r_2.1.Steps,i6 r_5.1,.sl (b_7.map (AV.int .i64)) (some 0)]],[(b_7.length,1)]⟩ ?_)
  refine Ex.ret ?_
  obtain rfl:=sJ h
  exact rt (.agg [.sl (r_2.1.Rooms.map (AV.int .i64)) none,.sl (r_2.1.Streets.map A_Street) none,.sl (r_2.1.Groups.map A_Group) none,i6 r_2.1.Steps,i6 r_5.1,.sl (b_7.map (AV.int .i64)) (some 0)])
structure T_Band where
 First : Int
 Path : (List Int)
 Start : T_Span
 Stay : Int
 People : Int
 deriving Inhabited
def C_Band (x : T_Band) : List AV:=[i6 x.First,.sl (x.Path.map (AV.int .i64)) none,i6 x.Start.Lo,i6 x.Start.Hi,i6 x.Stay,i6 x.People]
attribute [local simp] C_Band
def A_Band (x : T_Band) : AV:=.agg (C_Band x)
attribute [local simp] A_Band
theorem KC_Band (x : T_Band) : cleanL (C_Band x) = true:=by simp
theorem KA_Band (x : T_Band) : (A_Band x).clean = true:=KC_Band x
theorem KL_Band (l : List T_Band) : cleanL (l.map A_Band) = true:=cleanM KA_Band l
attribute [local simp] KL_Band
theorem KB_Band (x : T_Band) (n : Nat) (σ : List Nat) : (C_Band x).mapM (re n σ) = some (C_Band x):=by simp
attribute [local simp] KB_Band
def p_bk_BandOf (N : Nat) (d_1 : T_bk_Drum) (c_2 : T_City) : Option (T_Band × T_bk_Drum):=((p_bk_Drum_Roll N d_1 ((c_2.Town.Rooms.length : Nat) : Int)).bind fun r_3 => ((p_bk_Drum_Any N r_3.2 [6,20]).bind fun r_4 => ((p_bk_Drum_Mid N r_4.2 1 r_4.1).bind fun r_5 => ((p_bk_Drum_Roll N r_5.2 60).bind fun r_6 => ((p_bk_Drum_Roll N r_6.2 600).bind fun r_7 => ((p_bk_Drum_Any N r_7.2 [0,r_6.1,r_7.1]).bind fun r_8 => ((p_bk_Drum_Roll N r_8.2 5).bind fun r_9 => (letJ (fun (b_10 : Int) (b_11 : List Int) => ((some (IntKind.i64.wrap (720 - (IntKind.i64.wrap (r_5.1 * (IntKind.i64.wrap (((b_11.length : Nat) : Int) + 1))))))).bind fun n_39 => ((p_bk_Drum_Any N (⟨b_10⟩ : T_bk_Drum) [60,200,(IntKind.i64.wrap (n_39 - 4))]).bind fun r_40 => ((p_bk_Drum_Roll N r_40.2 r_40.1).bind fun r_41 => ((p_bk_Drum_Roll N r_41.2 5).bind fun r_42 => ((p_bk_Drum_Any N r_42.2 [0,0,r_42.1]).bind fun r_43 => some ((⟨r_3.1,b_11,(⟨r_41.1,(IntKind.i64.wrap (r_41.1 + r_43.1))⟩ : T_Span),r_5.1,r_8.1⟩ : T_Band),r_43.2))))))) (fun k_12 => (loop4 (fun rec_19 (at_15 : Int) (i_16 : Int) (b_17 : Int) (b_18 : List Int) => (letJ (fun (y_22 : Bool) => (bif y_22 then (letJ (fun (at_28 : Int) (b_29 : Int) (b_30 : List Int) => (rec_19 at_28 (IntKind.i64.wrap (i_16 - 1)) b_29 b_30)) (fun k_31 => ((p_bk_Drum_Roll N (⟨b_17⟩ : T_bk_Drum) ((c_2.Town.Streets.length : Nat) : Int)).bind fun r_34 => ((getI c_2.Town.Streets r_34.1).bind fun x_35 => ((p_br6_Other N x_35 at_15).bind fun r_36 => (bif (decide (r_36 ≥ 0)) then ((pushI b_18 ([r_34.1] : List Int)).bind fun l_38 => (k_31 r_36 r_34.2.beat_ l_38)) else (k_31 at_15 r_34.2.beat_ b_18))))))) else (k_12 b_17 b_18))) (fun k_23 => (bif (decide (i_16 > 0)) then (k_23 (decide (((c_2.Town.Streets.length : Nat) : Int) > 0))) else (k_23 false))))) N r_3.1 r_9.1 r_9.2.beat_ []))))))))))
def v_bk_BandOf (r : T_Band × T_bk_Drum) : AV:=(A_Band r.1)
attribute [local simp] v_bk_BandOf
theorem b_bk_BandOf (r : T_Band × T_bk_Drum) (n n2 m : Nat) : back n n2 m (v_bk_BandOf r) = some (v_bk_BandOf r):=by simp
theorem d_bk_BandOf (N : Nat) (d_1 : T_bk_Drum) (c_2 : T_City) (r : T_Band × T_bk_Drum) (h : p_bk_BandOf N d_1 c_2 = some r) : Does Tryd.prog 17 [.ptr 0 0,(A_City c_2)] [(C_bk_Drum d_1)] fun v c => v = v_bk_BandOf r ∧ c = [(C_bk_Drum r.2)]:=by
 unfold p_bk_BandOf at h
 refine Does.ofL comp17 _ _ rfl rfl ?_
 refine Ex.seq (rg 2 [0,3,4] (mkS 93 [(0,.ptr 0 0),(3,.ptr 1 0),(4,.ptr 2 0)]) ⟨[(C_bk_Drum d_1),(C_City c_2),[i6 0,.nils,i6 0,i6 0,i6 0,i6 0]],[]⟩ ?_)
 refine Ex.seq ?_
 obtain ⟨r_3,hr_3,h⟩:=bE h
 refine Ex.reg ?_
 refine runH 5 [(4,.eq (i6 ((c_2.Town.Rooms.length : Nat) : Int)))] [0,3,4,11,15] [AV.int .i64 (((c_2.Town.Rooms.map (AV.int .i64)).length : Nat) : Int) = AV.int .i64 ((c_2.Town.Rooms.length : Nat) : Int)] (mkS 93 [(0,.ptr 0 0),(3,.ptr 1 0),(4,.ptr 2 0),(11,.ptr 0 0),(15,i6 ((c_2.Town.Rooms.length : Nat) : Int))]) (⟨[(C_bk_Drum d_1),(C_City c_2),[i6 0,.nils,i6 0,i6 0,i6 0,i6 0]],[]⟩) (by kernel_rfl) ⟨lenM _ _,trivial⟩ ?_
 refine ExO.callL [0] [.ptr 0 0,i6 ((c_2.Town.Rooms.length : Nat) : Int)] rfl rfl (by simp; try rfl) rfl (by simp) (d_bk_Drum_Roll N d_1 ((c_2.Town.Rooms.length : Nat) : Int) r_3 hr_3) (b_bk_Drum_Roll _ _ _ _) (by simp) ?_
 obtain ⟨r_4,hr_4,h⟩:=bE h
 refine rn 3 [0,3,4,16,17,18,19] (mkS 93 [(0,.ptr 0 0),(3,.ptr 1 0),(4,.ptr 2 0),(16,i6 r_3.1),(17,.ptr 0 0),(18,.ptr 0 0),(19,.sl (([6,20] : List Int).map (AV.int .i64)) (some 0))]) ⟨[(C_bk_Drum r_3.2),(C_City c_2),[i6 0,.nils,i6 0,i6 0,i6 0,i6 0]],[(2,1)]⟩ ?_
 refine ExO.callL [0] [.ptr 0 0,.sl (([6,20] : List Int).map (AV.int .i64)) (some 0)] rfl rfl (by simp; try rfl) rfl (by simp) (d_bk_Drum_Any N r_3.2 [6,20] r_4 hr_4) (b_bk_Drum_Any _ _ _ _) (by simp) ?_
 obtain ⟨r_5,hr_5,h⟩:=bE h
 refine ExO.callL [0] [.ptr 0 0,i6 1,i6 r_4.1] rfl rfl (by simp; try rfl) rfl (by simp) (d_bk_Drum_Mid N r_4.2 1 r_4.1 r_5 hr_5) (b_bk_Drum_Mid _ _ _ _) (by simp) ?_
 obtain ⟨r_6,hr_6,h⟩:=bE h
 refine rn 2 [0,3,4,16,21,22,23] (mkS 93 [(0,.ptr 0 0),(3,.ptr 1 0),(4,.ptr 2 0),(16,i6 r_3.1),(21,i6 r_5.1),(22,.ptr 0 0),(23,.ptr 0 0)]) ⟨[(C_bk_Drum r_5.2),(C_City c_2),[i6 0,.nils,i6 0,i6 0,i6 0,i6 0]],[(2,1)]⟩ ?_
 refine ExO.callL [0] [.ptr 0 0,i6 60] rfl rfl (by simp; try rfl) rfl (by simp) (d_bk_Drum_Roll N r_5.2 60 r_6 hr_6) (b_bk_Drum_Roll _ _ _ _) (by simp) ?_
 obtain ⟨r_7,hr_7,h⟩:=bE h
 refine rn 1 [0,3,4,16,21,22,24,25] (mkS 93 [(0,.ptr 0 0),(3,.ptr 1 0),(4,.ptr 2 0),(16,i6 r_3.1),(21,i6 r_5.1),(22,.ptr 0 0),(24,i6 r_6.1),(25,.ptr 0 0)]) ⟨[(C_bk_Drum r_6.2),(C_City c_2),[i6 0,.nils,i6 0,i6 0,i6 0,i6 0]],[(2,1)]⟩ ?_
 refine ExO.callL [0] [.ptr 0 0,i6 600] rfl rfl (by simp; try rfl) rfl (by simp) (d_bk_Drum_Roll N r_6.2 600 r_7 hr_7) (b_bk_Drum_Roll _ _ _ _) (by simp) ?_
 obtain ⟨r_8,hr_8,h⟩:=bE h
 refine rn 1 [0,3,4,16,21,22,27] (mkS 93 [(0,.ptr 0 0),(3,.ptr 1 0),(4,.ptr 2 0),(16,i6 r_3.1),(21,i6 r_5.1),(22,.ptr 0 0),(27,.sl (([0,r_6.1,r_7.1] : List Int).map (AV.int .i64)) (some 1))]) ⟨[(C_bk_Drum r_7.2),(C_City c_2),[i6 0,.nils,i6 0,i6 0,i6 0,i6 0]],[(2,1),(3,1)]⟩ ?_
 refine ExO.callL [0] [.ptr 0 0,.sl (([0,r_6.1,r_7.1] : List Int).map (AV.int .i64)) (some 1)] rfl rfl (by simp; try rfl) rfl (by simp) (d_bk_Drum_Any N r_7.2 [0,r_6.1,r_7.1] r_8 hr_8) (b_bk_Drum_Any _ _ _ _) (by simp) ?_
 refine rn 3 [0,3,4,5] (mkS 93 [(0,.ptr 0 0),(3,.ptr 1 0),(4,.ptr 2 0),(5,.ptr 3 0)]) ⟨[(C_bk_Drum r_8.2),(C_City c_2),[i6 0,.nils,i6 0,i6 0,i6 0,i6 0],[i6 r_3.1,.nils,i6 0,i6 0,i6 r_5.1,i6 r_8.1]],[(2,1),(3,1)]⟩ ?_
 refine ExO.nil ?_
 refine Ex.seq (rg 3 [0,3,4,5,6] (mkS 93 [(0,.ptr 0 0),(3,.ptr 1 0),(4,.ptr 2 0),(5,.ptr 3 0),(6,i6 r_3.1)]) ⟨[(C_bk_Drum r_8.2),(C_City c_2),[i6 0,.nils,i6 0,i6 0,i6 0,i6 0],[i6 r_3.1,.nils,i6 0,i6 0,i6 r_5.1,i6 r_8.1]],[(2,1),(3,1)]⟩ ?_)
 refine Ex.seq (Ex.seq ?_)
 obtain ⟨r_9,hr_9,h⟩:=bE h
 refine Ex.reg (rn 1 [0,3,4,5,6,32] (mkS 93 [(0,.ptr 0 0),(3,.ptr 1 0),(4,.ptr 2 0),(5,.ptr 3 0),(6,i6 r_3.1),(32,.ptr 0 0)]) ⟨[(C_bk_Drum r_8.2),(C_City c_2),[i6 0,.nils,i6 0,i6 0,i6 0,i6 0],[i6 r_3.1,.nils,i6 0,i6 0,i6 r_5.1,i6 r_8.1]],[(2,1),(3,1)]⟩ ?_)
 refine ExO.callL [0] [.ptr 0 0,i6 5] rfl rfl (by simp; try rfl) rfl (by simp) (d_bk_Drum_Roll N r_8.2 5 r_9 hr_9) (b_bk_Drum_Roll _ _ _ _) (by simp) ?_
 refine rn 1 [0,3,4,5,6,7] (mkS 93 [(0,.ptr 0 0),(3,.ptr 1 0),(4,.ptr 2 0),(5,.ptr 3 0),(6,i6 r_3.1),(7,i6 r_9.1)]) ⟨[(C_bk_Drum r_9.2),(C_City c_2),[i6 0,.nils,i6 0,i6 0,i6 0,i6 0],[i6 r_3.1,.nils,i6 0,i6 0,i6 r_5.1,i6 r_8.1]],[(2,1),(3,1)]⟩ ?_
 refine ExO.nil ?_
 obtain ⟨K_13,hK_14,h⟩:=letE h
 refine Ex.blockJ (fun a S => ∃ (b_10 : Int),∃ (b_11 : List Int),K_13 b_10 b_11 = some r ∧ a = mkS 93 [(0,.ptr 0 0),(4,.ptr 2 0),(5,.ptr 3 0)] ∧ S = ⟨[[.int .u64 b_10],(C_City c_2),[i6 0,.nils,i6 0,i6 0,i6 0,i6 0],[i6 r_3.1,.sl (b_11.map (AV.int .i64)) (some 0),i6 0,i6 0,i6 r_5.1,i6 r_8.1]],[(b_11.length,1)]⟩) ?_ ?_
 ·refine Ex.forget (nilB 3 1 1 [i6 r_3.1,.nils,i6 0,i6 0,i6 r_5.1,i6 r_8.1] rfl rfl) ?_
  refine Ex.castA (a2:=mkS 93 [(0,.ptr 0 0),(3,.ptr 1 0),(4,.ptr 2 0),(5,.ptr 3 0),(6,i6 r_3.1),(7,i6 r_9.1)]) (S2:=⟨[(C_bk_Drum r_9.2),(C_City c_2),[i6 0,.nils,i6 0,i6 0,i6 0,i6 0],[i6 r_3.1,.sl (([] : List Int).map (AV.int .i64)) (some 2),i6 0,i6 0,i6 r_5.1,i6 r_8.1]],[(2,1),(3,1),(0,1)]⟩) (by kernel_rfl) (by kernel_rfl) ?_
  obtain ⟨B_20,hB_21,h⟩:=loop4I h
  refine Ex.loopF (fun k a S => ∃ (at_15 : Int),∃ (i_16 : Int),∃ (b_17 : Int),∃ (b_18 : List Int),loop4 B_20 k at_15 i_16 b_17 b_18 = some r ∧ a = mkS 93 [(0,.ptr 0 0),(3,.ptr 1 0),(4,.ptr 2 0),(5,.ptr 3 0),(6,i6 at_15),(7,i6 i_16)] ∧ S = ⟨[[.int .u64 b_17],(C_City c_2),[i6 0,.nils,i6 0,i6 0,i6 0,i6 0],[i6 r_3.1,.sl (b_18.map (AV.int .i64)) (some 0),i6 0,i6 0,i6 r_5.1,i6 r_8.1]],[(b_18.length,1)]⟩) N ⟨_,_,forgetA (m:=93) 4 [2] [(0,.ptr 0 0),(3,.ptr 1 0),(4,.ptr 2 0),(5,.ptr 3 0),(6,i6 r_3.1),(7,i6 r_9.1)] [(C_bk_Drum r_9.2),(C_City c_2),[i6 0,.nils,i6 0,i6 0,i6 0,i6 0],[i6 r_3.1,.sl (([] : List Int).map (AV.int .i64)) (some 0),i6 0,i6 0,i6 r_5.1,i6 r_8.1]] [(0,1)] (by simp [setAll]) (by simp) ⟨rfl,rfl,rfl,rfl,rfl,rfl,trivial⟩ (by simp) rfl (by decide),r_3.1,r_9.1,r_9.2.beat_,[],h,rfl,rfl⟩ ?_
  rintro k a S ⟨at_15,i_16,b_17,b_18,h,rfl,rfl⟩
  cases k with
  | zero => exact (loop4Z h).elim
  | succ k =>
   replace h:=loop4S h hB_21
   refine Ex.seq ?_
   obtain ⟨K_24,hK_25,h⟩:=letE h
   refine Ex.seqJ (fun a S => ∃ (y_22 : Bool),K_24 y_22 = some r ∧ a = mkS 93 [(0,.ptr 0 0),(3,.ptr 1 0),(4,.ptr 2 0),(5,.ptr 3 0),(6,i6 at_15),(7,i6 i_16),(42,.bool y_22)] ∧ S = ⟨[[.int .u64 b_17],(C_City c_2),[i6 0,.nils,i6 0,i6 0,i6 0,i6 0],[i6 r_3.1,.sl (b_18.map (AV.int .i64)) (some 0),i6 0,i6 0,i6 r_5.1,i6 r_8.1]],[(b_18.length,1)]⟩) ?_ ?_
   ·rcases condI h with ⟨hc_26,h⟩ | ⟨hc_26,h⟩
    ·refine regH 9 [(2, .eq (.bool true)), (6, .eq (i6 ((c_2.Town.Streets.length : Nat) : Int)))] [0, 3, 4, 5, 6, 7, 42] [AV.bool (decide (i_16 > 0)) = AV.bool true, AV.int .i64 (((c_2.Town.Streets.map A_Street).length : Nat) : Int) = AV.int .i64 ((c_2.Town.Streets.length : Nat) : Int)] (mkS 93 [(0, .ptr 0 0), (3, .ptr 1 0), (4, .ptr 2 0), (5, .ptr 3 0), (6, i6 at_15), (7, i6 i_16), (42, .bool (decide (((c_2.Town.Streets.length : Nat) : Int) > 0)))]) (⟨[[.int .u64 b_17], (C_City c_2), [i6 0, .nils, i6 0, i6 0, i6 0, i6 0], [i6 r_3.1, .sl (b_18.map (AV.int .i64)) (some 0), i6 0, i6 0, i6 r_5.1, i6 r_8.1]], [(b_18.length, 1)]⟩) (by kernel_rfl) ⟨congrArg AV.bool hc_26, lenM _ _, trivial⟩ rfl ?_
     (try simp only [reduceCtorEq,AEx.ex.injEq,Nat.reduceEqDiff,if_true,if_false])
     exact ⟨_,_,Forgets.refl _ _ _,(decide (((c_2.Town.Streets.length : Nat) : Int) > 0)),h,rfl,rfl⟩
    ·refine regH 9 [(2, .eq (.bool false))] [0, 3, 4, 5, 6, 7, 42] [AV.bool (decide (i_16 > 0)) = AV.bool false] (mkS 93 [(0, .ptr 0 0), (3, .ptr 1 0), (4, .ptr 2 0), (5, .ptr 3 0), (6, i6 at_15), (7, i6 i_16), (42, .bool false)]) (⟨[[.int .u64 b_17], (C_City c_2), [i6 0, .nils, i6 0, i6 0, i6 0, i6 0], [i6 r_3.1, .sl (b_18.map (AV.int .i64)) (some 0), i6 0, i6 0, i6 r_5.1, i6 r_8.1]], [(b_18.length, 1)]⟩) (by kernel_rfl) ⟨congrArg AV.bool hc_26, trivial⟩ rfl ?_
     (try simp only [reduceCtorEq,AEx.ex.injEq,Nat.reduceEqDiff,if_true,if_false])
     exact ⟨_,_,Forgets.refl _ _ _,false,h,rfl,rfl⟩
   ·rintro a S ⟨y_22,h,rfl,rfl⟩
    subst hK_25
    rcases condI h with ⟨hc_27,h⟩ | ⟨hc_27,h⟩
    ·refine Ex.condT _ rfl hc_27 ?_
     refine Ex.skip ?_
     refine Ex.seq ?_
     obtain ⟨K_32,hK_33,h⟩:=letE h
     refine Ex.blockJ (fun a S => ∃ (at_28 : Int),∃ (b_29 : Int),∃ (b_30 : List Int),K_32 at_28 b_29 b_30 = some r ∧ a = mkS 93 [(0,.ptr 0 0),(3,.ptr 1 0),(4,.ptr 2 0),(5,.ptr 3 0),(6,i6 at_28),(7,i6 i_16)] ∧ S = ⟨[[.int .u64 b_29],(C_City c_2),[i6 0,.nils,i6 0,i6 0,i6 0,i6 0],[i6 r_3.1,.sl (b_30.map (AV.int .i64)) (some 0),i6 0,i6 0,i6 r_5.1,i6 r_8.1]],[(b_30.length,1)]⟩) ?_ ?_
     ·refine Ex.seq ?_
      obtain ⟨r_34,hr_34,h⟩:=bE h
      refine Ex.reg ?_
      refine runH 5 [(4,.eq (i6 ((c_2.Town.Streets.length : Nat) : Int)))] [0,3,4,5,6,7,45,49] [AV.int .i64 (((c_2.Town.Streets.map A_Street).length : Nat) : Int) = AV.int .i64 ((c_2.Town.Streets.length : Nat) : Int)] (mkS 93 [(0,.ptr 0 0),(3,.ptr 1 0),(4,.ptr 2 0),(5,.ptr 3 0),(6,i6 at_15),(7,i6 i_16),(45,.ptr 0 0),(49,i6 ((c_2.Town.Streets.length : Nat) : Int))]) (⟨[[.int .u64 b_17],(C_City c_2),[i6 0,.nils,i6 0,i6 0,i6 0,i6 0],[i6 r_3.1,.sl (b_18.map (AV.int .i64)) (some 0),i6 0,i6 0,i6 r_5.1,i6 r_8.1]],[(b_18.length,1)]⟩) (by kernel_rfl) ⟨lenM _ _,trivial⟩ ?_
      refine ExO.callL [0] [.ptr 0 0,i6 ((c_2.Town.Streets.length : Nat) : Int)] rfl rfl (by simp; try rfl) rfl (by simp) (d_bk_Drum_Roll N (⟨b_17⟩ : T_bk_Drum) ((c_2.Town.Streets.length : Nat) : Int) r_34 hr_34) (b_bk_Drum_Roll _ _ _ _) (by simp) ?_
      refine rn 1 [0,3,4,5,6,7,8] (mkS 93 [(0,.ptr 0 0),(3,.ptr 1 0),(4,.ptr 2 0),(5,.ptr 3 0),(6,i6 at_15),(7,i6 i_16),(8,i6 r_34.1)]) ⟨[(C_bk_Drum r_34.2),(C_City c_2),[i6 0,.nils,i6 0,i6 0,i6 0,i6 0],[i6 r_3.1,.sl (b_18.map (AV.int .i64)) (some 0),i6 0,i6 0,i6 r_5.1,i6 r_8.1]],[(b_18.length,1)]⟩ ?_
      refine ExO.nil ?_
      refine Ex.seq ?_
      obtain ⟨x_35,hx_35,h⟩:=bE h
      obtain ⟨r_36,hr_36,h⟩:=bE h
      refine Ex.reg ?_
      refine runH 7 [(4,.rop (C_Street x_35))] [0,3,4,5,6,7,8,56,57] [LGet (c_2.Town.Streets.map A_Street) r_34.1 2 (C_Street x_35)] (mkS 93 [(0,.ptr 0 0),(3,.ptr 1 0),(4,.ptr 2 0),(5,.ptr 3 0),(6,i6 at_15),(7,i6 i_16),(8,i6 r_34.1),(56,(A_Street x_35)),(57,i6 at_15)]) (⟨[(C_bk_Drum r_34.2),(C_City c_2),[i6 0,.nils,i6 0,i6 0,i6 0,i6 0],[i6 r_3.1,.sl (b_18.map (AV.int .i64)) (some 0),i6 0,i6 0,i6 r_5.1,i6 r_8.1]],[(b_18.length,1)]⟩) (by kernel_rfl) ⟨LGet.of hx_35 rfl,trivial⟩ ?_
      refine ExO.callL [] [(A_Street x_35),i6 at_15] rfl rfl (a_br6_Other x_35 at_15) rfl rfl (d_br6_Other N x_35 at_15 r_36 hr_36) (b_br6_Other _ _ _ _) rfl ?_
      refine rn 1 [0,3,4,5,6,7,8,9] (mkS 93 [(0,.ptr 0 0),(3,.ptr 1 0),(4,.ptr 2 0),(5,.ptr 3 0),(6,i6 at_15),(7,i6 i_16),(8,i6 r_34.1),(9,i6 r_36)]) ⟨[(C_bk_Drum r_34.2),(C_City c_2),[i6 0,.nils,i6 0,i6 0,i6 0,i6 0],[i6 r_3.1,.sl (b_18.map (AV.int .i64)) (some 0),i6 0,i6 0,i6 r_5.1,i6 r_8.1]],[(b_18.length,1)]⟩ ?_
      refine ExO.nil ?_
      refine Ex.seq (rg 2 [0,3,4,5,6,7,8,9,60] (mkS 93 [(0,.ptr 0 0),(3,.ptr 1 0),(4,.ptr 2 0),(5,.ptr 3 0),(6,i6 at_15),(7,i6 i_16),(8,i6 r_34.1),(9,i6 r_36),(60,.bool (decide (r_36 ≥ 0)))]) ⟨[(C_bk_Drum r_34.2),(C_City c_2),[i6 0,.nils,i6 0,i6 0,i6 0,i6 0],[i6 r_3.1,.sl (b_18.map (AV.int .i64)) (some 0),i6 0,i6 0,i6 r_5.1,i6 r_8.1]],[(b_18.length,1)]⟩ ?_)
      rcases condI h with ⟨hc_37,h⟩ | ⟨hc_37,h⟩
      ·refine Ex.condT _ rfl hc_37 ?_
       obtain ⟨l_38,hl_38,h⟩:=bE h
       refine regH 9 [(4,.app (l_38.map (AV.int .i64)) l_38.length)] [0,3,4,5,6,7] [LApp b_18.length (b_18.map (AV.int .i64)) (([r_34.1] : List Int).map (AV.int .i64)) 1 (l_38.map (AV.int .i64)) l_38.length] (mkS 93 [(0,.ptr 0 0),(3,.ptr 1 0),(4,.ptr 2 0),(5,.ptr 3 0),(6,i6 r_36),(7,i6 i_16)]) (⟨[(C_bk_Drum r_34.2),(C_City c_2),[i6 0,.nils,i6 0,i6 0,i6 0,i6 0],[i6 r_3.1,.sl (l_38.map (AV.int .i64)) (some 0),i6 0,i6 0,i6 r_5.1,i6 r_8.1]],[(l_38.length,1),(1,1)]⟩) (by kernel_rfl) ⟨LApp.of hl_38 (fun _ => rfl),trivial⟩ rfl ?_
       (try simp only [reduceCtorEq,AEx.ex.injEq,Nat.reduceEqDiff,if_true,if_false])
       exact ⟨_,_,forgetA (m:=93) 4 [0] [(0,.ptr 0 0),(3,.ptr 1 0),(4,.ptr 2 0),(5,.ptr 3 0),(6,i6 r_36),(7,i6 i_16)] [(C_bk_Drum r_34.2),(C_City c_2),[i6 0,.nils,i6 0,i6 0,i6 0,i6 0],[i6 r_3.1,.sl (l_38.map (AV.int .i64)) (some 0),i6 0,i6 0,i6 r_5.1,i6 r_8.1]] [(l_38.length,1)] (by simp [setAll]) (by simp) ⟨rfl,rfl,rfl,rfl,rfl,rfl,trivial⟩ (by simp) rfl (by decide),r_36,r_34.2.beat_,l_38,h,rfl,rfl⟩
      ·refine Ex.condF _ rfl hc_37 ?_
       refine Ex.skip ?_
       (try simp only [reduceCtorEq,AEx.ex.injEq,Nat.reduceEqDiff,if_true,if_false])
       exact ⟨_,_,forgetK [0,3,4,5,6,7],at_15,r_34.2.beat_,b_18,h,rfl,rfl⟩
     ·rintro a S ⟨at_28,b_29,b_30,h,rfl,rfl⟩
      subst hK_33
      refine rg 3 [0,3,4,5,6,7] (mkS 93 [(0,.ptr 0 0),(3,.ptr 1 0),(4,.ptr 2 0),(5,.ptr 3 0),(6,i6 at_28),(7,i6 (IntKind.i64.wrap (i_16 - 1)))]) ⟨[[.int .u64 b_29],(C_City c_2),[i6 0,.nils,i6 0,i6 0,i6 0,i6 0],[i6 r_3.1,.sl (b_30.map (AV.int .i64)) (some 0),i6 0,i6 0,i6 r_5.1,i6 r_8.1]],[(b_30.length,1)]⟩ ?_
      dsimp only
      exact ⟨_,_,Forgets.refl _ _ _,k,Nat.lt_succ_self k,at_28,(IntKind.i64.wrap (i_16 - 1)),b_29,b_30,h,rfl,rfl⟩
    ·refine Ex.condF _ rfl hc_27 ?_
     refine Ex.exit ?_
     (try simp only [reduceCtorEq,AEx.ex.injEq,Nat.reduceEqDiff,if_true,if_false])
     exact ⟨_,_,forgetK [0,4,5],b_17,b_18,h,rfl,rfl⟩
 ·rintro a S ⟨b_10,b_11,h,rfl,rfl⟩
  subst hK_14
  refine Ex.seq ?_
  obtain ⟨n_39,hn_39,h⟩:=bE h
  obtain ⟨r_40,hr_40,h⟩:=bE h
  refine Ex.reg ?_
  refine runH 12 [(6,.eq (i6 ((b_11.length : Nat) : Int))),(9,.eq (i6 n_39))] [0,4,5,68,69,79] [AV.int .i64 (((b_11.map (AV.int .i64)).length : Nat) : Int) = AV.int .i64 ((b_11.length : Nat) : Int),AV.int .i64 (IntKind.i64.wrap (720 - (IntKind.i64.wrap (r_5.1 * (IntKind.i64.wrap (((b_11.length : Nat) : Int) + 1)))))) = AV.int .i64 n_39] (mkS 93 [(0,.ptr 0 0),(4,.ptr 2 0),(5,.ptr 3 0),(68,.ptr 0 0),(69,.ptr 0 0),(79,.sl (([60,200,(IntKind.i64.wrap (n_39 - 4))] : List Int).map (AV.int .i64)) (some 1))]) (⟨[[.int .u64 b_10],(C_City c_2),[i6 0,.nils,i6 0,i6 0,i6 0,i6 0],[i6 r_3.1,.sl (b_11.map (AV.int .i64)) (some 0),i6 0,i6 0,i6 r_5.1,i6 r_8.1]],[(b_11.length,1),(3,1)]⟩) (by kernel_rfl) ⟨lenM _ _,congrArg (AV.int .i64) (Option.some.inj hn_39),trivial⟩ ?_
  refine ExO.callL [0] [.ptr 0 0,.sl (([60,200,(IntKind.i64.wrap (n_39 - 4))] : List Int).map (AV.int .i64)) (some 1)] rfl rfl (by simp; try rfl) rfl (by simp) (d_bk_Drum_Any N (⟨b_10⟩ : T_bk_Drum) [60,200,(IntKind.i64.wrap (n_39 - 4))] r_40 hr_40) (b_bk_Drum_Any _ _ _ _) (by simp) ?_
  obtain ⟨r_41,hr_41,h⟩:=bE h
  refine ExO.callL [0] [.ptr 0 0,i6 r_40.1] rfl rfl (by simp; try rfl) rfl (by simp) (d_bk_Drum_Roll N r_40.2 r_40.1 r_41 hr_41) (b_bk_Drum_Roll _ _ _ _) (by simp) ?_
  refine rn 1 [0,4,5,10] (mkS 93 [(0,.ptr 0 0),(4,.ptr 2 0),(5,.ptr 3 0),(10,i6 r_41.1)]) ⟨[(C_bk_Drum r_41.2),(C_City c_2),[i6 0,.nils,i6 0,i6 0,i6 0,i6 0],[i6 r_3.1,.sl (b_11.map (AV.int .i64)) (some 0),i6 0,i6 0,i6 r_5.1,i6 r_8.1]],[(b_11.length,1),(3,1)]⟩ ?_
  refine ExO.nil ?_
  refine Ex.seq ?_
  obtain ⟨r_42,hr_42,h⟩:=bE h
  refine Ex.reg (rn 4 [4,5,82,83,84,85] (mkS 93 [(4,.ptr 2 0),(5,.ptr 3 0),(82,i6 r_41.1),(83,i6 r_41.1),(84,.ptr 0 0),(85,.ptr 0 0)]) ⟨[(C_bk_Drum r_41.2),(C_City c_2),[i6 0,.nils,i6 0,i6 0,i6 0,i6 0],[i6 r_3.1,.sl (b_11.map (AV.int .i64)) (some 0),i6 0,i6 0,i6 r_5.1,i6 r_8.1]],[(b_11.length,1),(3,1)]⟩ ?_)
  refine ExO.callL [0] [.ptr 0 0,i6 5] rfl rfl (by simp; try rfl) rfl (by simp) (d_bk_Drum_Roll N r_41.2 5 r_42 hr_42) (b_bk_Drum_Roll _ _ _ _) (by simp) ?_
  obtain ⟨r_43,hr_43,h⟩:=bE h
  refine rn 1 [4,5,82,83,84,87] (mkS 93 [(4,.ptr 2 0),(5,.ptr 3 0),(82,i6 r_41.1),(83,i6 r_41.1),(84,.ptr 0 0),(87,.sl (([0,0,r_42.1] : List Int).map (AV.int .i64)) (some 2))]) ⟨[(C_bk_Drum r_42.2),(C_City c_2),[i6 0,.nils,i6 0,i6 0,i6 0,i6 0],[i6 r_3.1,.sl (b_11.map (AV.int .i64)) (some 0),i6 0,i6 0,i6 r_5.1,i6 r_8.1]],[(b_11.length,1),(3,1),(3,1)]⟩ ?_
  refine ExO.callL [0] [.ptr 0 0,.sl (([0,0,r_42.1] : List Int).map (AV.int .i64)) (some 2)] rfl rfl (by simp; try rfl) rfl (by simp) (d_bk_Drum_Any N r_42.2 [0,0,r_42.1] r_43 hr_43) (b_bk_Drum_Any _ _ _ _) (by simp) ?_
  refine rn 4 [4,5] (mkS 93 [(4,.ptr 2 0),(5,.ptr 3 0)]) ⟨[(C_bk_Drum r_43.2),(C_City c_2),[i6 0,.nils,i6 0,i6 0,i6 0,i6 0],[i6 r_3.1,.sl (b_11.map (AV.int .i64)) (some 0),i6 r_41.1,i6 (IntKind.i64.wrap (r_41.1 + r_43.1)),i6 r_5.1,i6 r_8.1]],[(b_11.length,1),(3,1),(3,1)]⟩ ?_
  refine ExO.nil ?_
  refine Ex.seq (rg 2 [4] (mkS 93 [(4,.ptr 2 0)]) ⟨[(C_bk_Drum r_43.2),(C_City c_2),[i6 r_3.1,.sl (b_11.map (AV.int .i64)) (some 0),i6 r_41.1,i6 (IntKind.i64.wrap (r_41.1 + r_43.1)),i6 r_5.1,i6 r_8.1],[i6 r_3.1,.sl (b_11.map (AV.int .i64)) (some 0),i6 r_41.1,i6 (IntKind.i64.wrap (r_41.1 + r_43.1)),i6 r_5.1,i6 r_8.1]],[(b_11.length,1),(3,1),(3,1)]⟩ ?_)
  refine Ex.ret ?_
  obtain rfl:=sJ h
  exact rt (.agg [i6 r_3.1,.sl (b_11.map (AV.int .i64)) (some 0),i6 r_41.1,i6 (IntKind.i64.wrap (r_41.1 + r_43.1)),i6 r_5.1,i6 r_8.1])
def p_bk_BandsOf (N : Nat) (d_1 : T_bk_Drum) (c_2 : T_City) (most_3 : Int) : Option ((List T_Band) × T_bk_Drum):=((p_bk_Drum_Roll N d_1 (IntKind.i64.wrap (most_3 + 1))).bind fun r_4 => (letJ (fun (out_5 : List T_Band) (b_6 : Int) => some (out_5,(⟨b_6⟩ : T_bk_Drum))) (fun k_7 => (loop3 (fun rec_13 (out_10 : List T_Band) (i_11 : Int) (b_12 : Int) => (bif (decide (i_11 > 0)) then ((p_bk_BandOf N (⟨b_12⟩ : T_bk_Drum) c_2).bind fun r_17 => ((pushI out_10 ([r_17.1] : List T_Band)).bind fun l_18 => (rec_13 l_18 (IntKind.i64.wrap (i_11 - 1)) r_17.2.beat_))) else (k_7 out_10 b_12))) N [] r_4.1 r_4.2.beat_))))
def v_bk_BandsOf (r : (List T_Band) × T_bk_Drum) : AV:=.sl (r.1.map A_Band) none
attribute [local simp] v_bk_BandsOf
theorem b_bk_BandsOf (r : (List T_Band) × T_bk_Drum) (n n2 m : Nat) : back n n2 m (v_bk_BandsOf r) = some (v_bk_BandsOf r):=by simp
theorem d_bk_BandsOf (N : Nat) (d_1 : T_bk_Drum) (c_2 : T_City) (most_3 : Int) (r : (List T_Band) × T_bk_Drum) (h : p_bk_BandsOf N d_1 c_2 most_3 = some r) : Does Tryd.prog 6 [.ptr 0 0,(A_City c_2),i6 most_3] [(C_bk_Drum d_1)] fun v c => v = v_bk_BandsOf r ∧ c = [(C_bk_Drum r.2)]:=by
 unfold p_bk_BandsOf at h
 refine Does.ofL comp6 _ _ rfl rfl ?_
 refine Ex.seq (rg 2 [0,2,4] (mkS 24 [(0,.ptr 0 0),(2,i6 most_3),(4,.ptr 1 0)]) ⟨[(C_bk_Drum d_1),(C_City c_2)],[]⟩ ?_)
 refine Ex.seq (rg 1 [0,2,4,7] (mkS 24 [(0,.ptr 0 0),(2,i6 most_3),(4,.ptr 1 0),(7,.nils)]) ⟨[(C_bk_Drum d_1),(C_City c_2)],[]⟩ ?_)
 refine Ex.seq (Ex.seq ?_)
 obtain ⟨r_4,hr_4,h⟩:=bE h
 refine Ex.reg (rn 3 [0,4,7,9,11] (mkS 24 [(0,.ptr 0 0),(4,.ptr 1 0),(7,.nils),(9,.ptr 0 0),(11,i6 (IntKind.i64.wrap (most_3 + 1)))]) ⟨[(C_bk_Drum d_1),(C_City c_2)],[]⟩ ?_)
 refine ExO.callL [0] [.ptr 0 0,i6 (IntKind.i64.wrap (most_3 + 1))] rfl rfl (by simp; try rfl) rfl (by simp) (d_bk_Drum_Roll N d_1 (IntKind.i64.wrap (most_3 + 1)) r_4 hr_4) (b_bk_Drum_Roll _ _ _ _) (by simp) ?_
 refine rn 1 [0,4,7,8] (mkS 24 [(0,.ptr 0 0),(4,.ptr 1 0),(7,.nils),(8,i6 r_4.1)]) ⟨[(C_bk_Drum r_4.2),(C_City c_2)],[]⟩ ?_
 refine ExO.nil ?_
 obtain ⟨K_8,hK_9,h⟩:=letE h
 refine Ex.blockJ (fun a S => ∃ (out_5 : List T_Band),∃ (b_6 : Int),K_8 out_5 b_6 = some r ∧ a = mkS 24 [(7,.sl (out_5.map A_Band) (some 0))] ∧ S = ⟨[[.int .u64 b_6]],[(out_5.length,6)]⟩) ?_ ?_
 ·refine Ex.forget (nilK 7 6 rfl) ?_
  refine Ex.castA (a2:=mkS 24 [(0,.ptr 0 0),(4,.ptr 1 0),(7,.sl (([] : List T_Band).map A_Band) (some 0)),(8,i6 r_4.1)]) (S2:=⟨[(C_bk_Drum r_4.2),(C_City c_2)],[(0,6)]⟩) (by kernel_rfl) (by kernel_rfl) ?_
  obtain ⟨B_14,hB_15,h⟩:=loop3I h
  refine Ex.loopF (fun k a S => ∃ (out_10 : List T_Band),∃ (i_11 : Int),∃ (b_12 : Int),loop3 B_14 k out_10 i_11 b_12 = some r ∧ a = mkS 24 [(0,.ptr 0 0),(4,.ptr 1 0),(7,.sl (out_10.map A_Band) (some 0)),(8,i6 i_11)] ∧ S = ⟨[[.int .u64 b_12],(C_City c_2)],[(out_10.length,6)]⟩) N ⟨_,_,Forgets.refl _ _ _,[],r_4.1,r_4.2.beat_,h,rfl,rfl⟩ ?_
  rintro k a S ⟨out_10,i_11,b_12,h,rfl,rfl⟩
  cases k with
  | zero => exact (loop3Z h).elim
  | succ k =>
   replace h:=loop3S h hB_15
   refine Ex.seq (Ex.seq ?_)
   refine rg 2 [0,4,7,8,14] (mkS 24 [(0,.ptr 0 0),(4,.ptr 1 0),(7,.sl (out_10.map A_Band) (some 0)),(8,i6 i_11),(14,.bool (decide (i_11 > 0)))]) ⟨[[.int .u64 b_12],(C_City c_2)],[(out_10.length,6)]⟩ ?_
   rcases condI h with ⟨hc_16,h⟩ | ⟨hc_16,h⟩
   ·refine Ex.condT _ rfl hc_16 ?_
    refine Ex.skip ?_
    refine Ex.seq ?_
    refine Ex.blockK ?_
    refine Ex.postF ?_
    obtain ⟨r_17,hr_17,h⟩:=bE h
    refine Ex.reg (rn 3 [0,4,8,17,18,19] (mkS 24 [(0,.ptr 0 0),(4,.ptr 1 0),(8,i6 i_11),(17,.sl (out_10.map A_Band) (some 0)),(18,.ptr 0 0),(19,(A_City c_2))]) ⟨[[.int .u64 b_12],(C_City c_2)],[(out_10.length,6)]⟩ ?_)
    refine ExO.callL [0] [.ptr 0 0,(A_City c_2)] rfl rfl (by simp; try rfl) rfl (by simp) (d_bk_BandOf N (⟨b_12⟩ : T_bk_Drum) c_2 r_17 hr_17) (b_bk_BandOf _ _ _ _) (by simp) ?_
    obtain ⟨l_18,hl_18,h⟩:=bE h
    refine runH 3 [(1,.app (l_18.map A_Band) l_18.length)] [0,4,7,8] [LApp out_10.length (out_10.map A_Band) (([r_17.1] : List T_Band).map A_Band) 6 (l_18.map A_Band) l_18.length] (mkS 24 [(0,.ptr 0 0),(4,.ptr 1 0),(7,.sl (l_18.map A_Band) (some 0)),(8,i6 i_11)]) (⟨[(C_bk_Drum r_17.2),(C_City c_2)],[(l_18.length,6),(1,6)]⟩) (by kernel_rfl) ⟨LApp.of hl_18 (fun _ => rfl),trivial⟩ ?_
    refine ExO.nil ?_
    refine ⟨mkS 24 [(0,.ptr 0 0),(4,.ptr 1 0),(7,.sl (l_18.map A_Band) (some 0)),(8,i6 i_11)],⟨[(C_bk_Drum r_17.2),(C_City c_2)],[(l_18.length,6),(1,6)]⟩,Forgets.refl _ _ _,?_⟩
    refine rg 3 [0,4,7,8] (mkS 24 [(0,.ptr 0 0),(4,.ptr 1 0),(7,.sl (l_18.map A_Band) (some 0)),(8,i6 (IntKind.i64.wrap (i_11 - 1)))]) ⟨[(C_bk_Drum r_17.2),(C_City c_2)],[(l_18.length,6),(1,6)]⟩ ?_
    dsimp only
    exact ⟨_,_,forgetA (m:=24) 2 [0] [(0,.ptr 0 0),(4,.ptr 1 0),(7,.sl (l_18.map A_Band) (some 0)),(8,i6 (IntKind.i64.wrap (i_11 - 1)))] [(C_bk_Drum r_17.2),(C_City c_2)] [(l_18.length,6)] (by simp [setAll]) (by simp) ⟨rfl,rfl,(reT (KL_Band _) rfl),rfl,trivial⟩ (by simp) rfl (by decide),k,Nat.lt_succ_self k,l_18,(IntKind.i64.wrap (i_11 - 1)),r_17.2.beat_,h,rfl,rfl⟩
   ·refine Ex.condF _ rfl hc_16 ?_
    refine Ex.exit ?_
    (try simp only [reduceCtorEq,AEx.ex.injEq,Nat.reduceEqDiff,if_true,if_false])
    exact ⟨_,_,forgetA (m:=24) 1 [0] [(7,.sl (out_10.map A_Band) (some 0))] [[.int .u64 b_12]] [(out_10.length,6)] (by simp [setAll]) (by simp) ⟨(reT (KL_Band _) rfl),trivial⟩ (by simp) rfl (by decide),out_10,b_12,h,rfl,rfl⟩
 ·rintro a S ⟨out_5,b_6,h,rfl,rfl⟩
  subst hK_9
  refine Ex.seq (rg 2 [6] (mkS 24 [(6,.sl (out_5.map A_Band) (some 0))]) ⟨[[.int .u64 b_6]],[(out_5.length,6)]⟩ ?_)
  refine Ex.ret ?_
  obtain rfl:=sJ h
  exact rt (.sl (out_5.map A_Band) (some 0))
def p_bk_EqErrors (N : Nat) (a_1 : (List Int)) (b_2 : (List Int)) : Option (Bool):=(bif (((a_1.length : Nat) : Int) != ((b_2.length : Nat) : Int)) then some false else (letJ (fun (_ : Unit) => some true) (fun k_4 => (loop1 (fun rec_8 (i_7 : Int) => (bif (decide (i_7 < ((a_1.length : Nat) : Int))) then ((getI a_1 i_7).bind fun x_12 => ((getI b_2 i_7).bind fun x_13 => (bif (x_12 != x_13) then some false else (rec_8 (IntKind.i64.wrap (i_7 + 1)))))) else (k_4 ()))) N 0))))
def v_bk_EqErrors (r : Bool) : AV:=.bool r
attribute [local simp] v_bk_EqErrors
theorem a_bk_EqErrors (a_1 : (List Int)) (b_2 : (List Int)) : [.sl (a_1.map (AV.int .i64)) none,.sl (b_2.map (AV.int .i64)) none].mapM (ren []) = some [.sl (a_1.map (AV.int .i64)) none,.sl (b_2.map (AV.int .i64)) none]:=by simp
theorem b_bk_EqErrors (r : Bool) (n n2 m : Nat) : back n n2 m (v_bk_EqErrors r) = some (v_bk_EqErrors r):=by simp
theorem d_bk_EqErrors (N : Nat) (a_1 : (List Int)) (b_2 : (List Int)) (r : Bool) (h : p_bk_EqErrors N a_1 b_2 = some r) : Does Tryd.prog 29 [.sl (a_1.map (AV.int .i64)) none,.sl (b_2.map (AV.int .i64)) none] [] fun v c => v = v_bk_EqErrors r ∧ c = []:=by
 unfold p_bk_EqErrors at h
 refine Does.ofL comp29 _ _ rfl rfl ?_
 refine Ex.seq (rg 1 [0,1] (mkS 26 [(0,.sl (a_1.map (AV.int .i64)) none),(1,.sl (b_2.map (AV.int .i64)) none)]) ⟨[],[]⟩ ?_)
 refine Ex.seq (Ex.seq ?_)
 refine regH 5 [(1,.eq (i6 ((a_1.length : Nat) : Int))),(3,.eq (i6 ((b_2.length : Nat) : Int)))] [0,1,10] [AV.int .i64 (((a_1.map (AV.int .i64)).length : Nat) : Int) = AV.int .i64 ((a_1.length : Nat) : Int),AV.int .i64 (((b_2.map (AV.int .i64)).length : Nat) : Int) = AV.int .i64 ((b_2.length : Nat) : Int)] (mkS 26 [(0,.sl (a_1.map (AV.int .i64)) none),(1,.sl (b_2.map (AV.int .i64)) none),(10,.bool (((a_1.length : Nat) : Int) != ((b_2.length : Nat) : Int)))]) (⟨[],[]⟩) (by kernel_rfl) ⟨lenM _ _,lenM _ _,trivial⟩ rfl ?_
 rcases condI h with ⟨hc_3,h⟩ | ⟨hc_3,h⟩
 ·refine Ex.condT _ rfl hc_3 ?_
  refine Ex.seq (rg 1 [4] (mkS 26 [(4,.bool false)]) ⟨[],[]⟩ ?_)
  refine Ex.ret ?_
  obtain rfl:=sJ h
  exact rt (.bool false)
 ·refine Ex.condF _ rfl hc_3 ?_
  refine Ex.skip ?_
  refine Ex.seq (Ex.seq ?_)
  refine rg 1 [0,1,5] (mkS 26 [(0,.sl (a_1.map (AV.int .i64)) none),(1,.sl (b_2.map (AV.int .i64)) none),(5,i6 0)]) ⟨[],[]⟩ ?_
  obtain ⟨K_5,hK_6,h⟩:=letE h
  refine Ex.blockJ (fun a S => K_5 () = some r ∧ a = mkS 26 [] ∧ S = ⟨[],[]⟩) ?_ ?_
  ·obtain ⟨B_9,hB_10,h⟩:=loop1I h
   refine Ex.loopF (fun k a S => ∃ (i_7 : Int),loop1 B_9 k i_7 = some r ∧ a = mkS 26 [(0,.sl (a_1.map (AV.int .i64)) none),(1,.sl (b_2.map (AV.int .i64)) none),(5,i6 i_7)] ∧ S = ⟨[],[]⟩) N ⟨_,_,Forgets.refl _ _ _,0,h,rfl,rfl⟩ ?_
   rintro k a S ⟨i_7,h,rfl,rfl⟩
   cases k with
   | zero => exact (loop1Z h).elim
   | succ k =>
    replace h:=loop1S h hB_10
    refine Ex.seq (Ex.seq ?_)
    refine regH 4 [(2,.eq (i6 ((a_1.length : Nat) : Int)))] [0,1,5,14] [AV.int .i64 (((a_1.map (AV.int .i64)).length : Nat) : Int) = AV.int .i64 ((a_1.length : Nat) : Int)] (mkS 26 [(0,.sl (a_1.map (AV.int .i64)) none),(1,.sl (b_2.map (AV.int .i64)) none),(5,i6 i_7),(14,.bool (decide (i_7 < ((a_1.length : Nat) : Int))))]) (⟨[],[]⟩) (by kernel_rfl) ⟨lenM _ _,trivial⟩ rfl ?_
    rcases condI h with ⟨hc_11,h⟩ | ⟨hc_11,h⟩
    ·refine Ex.condT _ rfl hc_11 ?_
     refine Ex.skip ?_
     refine Ex.seq ?_
     refine Ex.blockK ?_
     refine Ex.seq ?_
     obtain ⟨x_12,hx_12,h⟩:=bE h
     obtain ⟨x_13,hx_13,h⟩:=bE h
     refine Ex.drawE (a1:=mkS 26 [(0,.sl (a_1.map (AV.int .i64)) none),(1,.sl (b_2.map (AV.int .i64)) none),(5,i6 i_7),(14,.bool (decide (i_7 < ((a_1.length : Nat) : Int)))),(17,.sl (a_1.map (AV.int .i64)) none),(18,i6 i_7),(19,.rop [i6 x_12]),(20,i6 x_12),(21,.sl (b_2.map (AV.int .i64)) none),(22,i6 i_7),(23,.rop [i6 x_13]),(24,i6 x_13)]) (noClr_ok _) [] [] [] ?_ ?_
     ·refine drS [] 8 [(2, .rop [i6 x_12]), (6, .rop [i6 x_13])] [LGet (a_1.map (AV.int .i64)) i_7 1 [i6 x_12], LGet (b_2.map (AV.int .i64)) i_7 1 [i6 x_13]] (mkS 26 [(0, .sl (a_1.map (AV.int .i64)) none), (1, .sl (b_2.map (AV.int .i64)) none), (5, i6 i_7), (14, .bool (decide (i_7 < ((a_1.length : Nat) : Int)))), (17, .sl (a_1.map (AV.int .i64)) none), (18, i6 i_7), (19, .rop [i6 x_12]), (20, i6 x_12), (21, .sl (b_2.map (AV.int .i64)) none), (22, i6 i_7), (23, .rop [i6 x_13]), (24, i6 x_13)]) (by simp) (by kernel_rfl) ⟨LGet.of hx_12 rfl, LGet.of hx_13 rfl, trivial⟩ (by kernel_rfl) ?_
      exact DrO.nil rfl
     ·dsimp only [List.getLastD_cons,List.getLastD_nil]
      refine rn 1 [0,1,5,25] (mkS 26 [(0,.sl (a_1.map (AV.int .i64)) none),(1,.sl (b_2.map (AV.int .i64)) none),(5,i6 i_7),(25,.bool (x_12 != x_13))]) ⟨[],[]⟩ ?_
      refine ExO.nil ?_
      rcases condI h with ⟨hc_14,h⟩ | ⟨hc_14,h⟩
      ·refine Ex.condT _ rfl hc_14 ?_
       refine Ex.seq (rg 1 [4] (mkS 26 [(4,.bool false)]) ⟨[],[]⟩ ?_)
       refine Ex.ret ?_
       obtain rfl:=sJ h
       exact rt (.bool false)
      ·refine Ex.condF _ rfl hc_14 ?_
       refine Ex.skip ?_
       refine rg 3 [0,1,5] (mkS 26 [(0,.sl (a_1.map (AV.int .i64)) none),(1,.sl (b_2.map (AV.int .i64)) none),(5,i6 (IntKind.i64.wrap (i_7 + 1)))]) ⟨[],[]⟩ ?_
       dsimp only
       exact ⟨_,_,Forgets.refl _ _ _,k,Nat.lt_succ_self k,(IntKind.i64.wrap (i_7 + 1)),h,rfl,rfl⟩
    ·refine Ex.condF _ rfl hc_11 ?_
     refine Ex.exit ?_
     (try simp only [reduceCtorEq,AEx.ex.injEq,Nat.reduceEqDiff,if_true,if_false])
     exact ⟨_,_,forgetK [],h,rfl,rfl⟩
  ·rintro a S ⟨h,rfl,rfl⟩
   subst hK_6
   refine Ex.seq (rg 1 [4] (mkS 26 [(4,.bool true)]) ⟨[],[]⟩ ?_)
   refine Ex.ret ?_
   obtain rfl:=sJ h
   exact rt (.bool true)
end Go.Proofs.YthfpmjnmaifgaaaDoor
end
