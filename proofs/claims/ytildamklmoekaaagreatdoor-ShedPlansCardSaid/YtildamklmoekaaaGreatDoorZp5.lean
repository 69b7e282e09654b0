/- Part 6 of what the law needs: own work, put together. -/
import Derived.Test.YtildamklmoekaaaGreatDoorZp4
set_option linter.unusedVariables false
set_option linter.unusedSimpArgs false
set_option maxRecDepth 10000
set_option maxHeartbeats 4000000
namespace Go.Proofs.YtildamklmoekaaaGreatDoor
section
open Go.RowKit
attribute [local simp] ren ren1 AV.plain AV.plain1 AV.clean bB fX dS gB fR dB dC fE dN cF cJ cT aK aE aU aI aW aC aB aA aN bO bP back back1 re re1 List.idxOf? List.findIdx? List.findIdx?.go nH oX zF vE rN kO fadeS fadeV
def entW : List (aCV Tryz.prog):=[⟨32,F32,comp32⟩,⟨50,F50,comp50⟩,⟨67,F67,comp67⟩,⟨69,F69,comp69⟩,⟨75,F75,comp75⟩,⟨76,F76,comp76⟩,⟨77,F77,comp77⟩,⟨78,F78,comp78⟩,⟨79,F79,comp79⟩,⟨81,F81,comp81⟩,⟨82,F82,comp82⟩,⟨83,F83,comp83⟩,⟨84,F84,comp84⟩,⟨85,F85,comp85⟩,⟨96,F96,comp96⟩]
noncomputable def XW : Clr:=clrN (aAh entW) (fun _ => false) aAm 300 14
theorem aAE : eE Tryz.prog XW:=aBk (cP _) (xU entW) 300 14
def decV {α : Type} (A : α → AV) (g : AV → α) (o : Option (AV × List (List AV))) : Option α:=match o with
 | some (v,[]) => bif beqL [A (g v)] [v] then some (g v) else none
 | _ => none
theorem rZ {α : Type} {A : α → AV} {g : AV → α} {o : Option (AV × List (List AV))} {r : α} (h : decV A g o = some r) : o = some (A r,[]):=by
 unfold decV at h
 split at h
 ·rename_i v
  cases hb : beqL [A (g v)] [v] with
  | false => rw [hb] at h; cases h
  | true =>
   rw [hb,cond_true] at h
   have:=jH _ _ hb
   cases h
   rw [(List.cons.inj this).1]
 ·cases h
def asI : AV → Int
 | .int _ z => z
 | _ => 0
def asB : AV → Bool
 | .bool b => b
 | _ => false
def wY (r : Bool) : AV:=.bool r
attribute [local simp] wY
def tZ (r : Int) : AV:=i6 r
attribute [local simp] tZ
def vH (r : Int) : AV:=i6 r
attribute [local simp] vH
def vG (r : Int) : AV:=i6 r
attribute [local simp] vG
def aAI (r : Int) : AV:=i6 r
attribute [local simp] aAI
structure dH where
 a0 : aG
 a1 : aG
 a2 : aG
 a3 : aG
 a4 : aG
 a5 : aG
 a6 : aG
 deriving Inhabited
def dP (x : dH) : List AV:=[i6 x.a0.Worker,i6 x.a0.Day,i6 x.a1.Worker,i6 x.a1.Day,i6 x.a2.Worker,i6 x.a2.Day,i6 x.a3.Worker,i6 x.a3.Day,i6 x.a4.Worker,i6 x.a4.Day,i6 x.a5.Worker,i6 x.a5.Day,i6 x.a6.Worker,i6 x.a6.Day]
attribute [local simp] dP
def eH (x : dH) : AV:=.agg (dP x)
attribute [local simp] eH
theorem aCR (x : dH) : bB (dP x) = true:=by simp
theorem aCT (x : dH) : (eH x).clean = true:=aCR x
theorem eV (l : List dH) : bB (l.map eH) = true:=cR aCT l
attribute [local simp] eV
theorem nY (x : dH) (n : Nat) (σ : List Nat) : (dP x).mapM (re n σ) = some (dP x):=by simp
attribute [local simp] nY
def dH.l (x : dH) : List aG:=[x.a0,x.a1,x.a2,x.a3,x.a4,x.a5,x.a6]
def dH.ofl (l : List aG) : dH:=⟨l[0]?.getD default,l[1]?.getD default,l[2]?.getD default,l[3]?.getD default,l[4]?.getD default,l[5]?.getD default,l[6]?.getD default⟩
structure dY where
 a0 : Bool
 a1 : Bool
 a2 : Bool
 a3 : Bool
 a4 : Bool
 a5 : Bool
 a6 : Bool
 deriving Inhabited
def eG (x : dY) : List AV:=[.bool x.a0,.bool x.a1,.bool x.a2,.bool x.a3,.bool x.a4,.bool x.a5,.bool x.a6]
attribute [local simp] eG
def fL (x : dY) : AV:=.agg (eG x)
attribute [local simp] fL
theorem aDD (x : dY) : bB (eG x) = true:=by simp
theorem aDF (x : dY) : (fL x).clean = true:=aDD x
theorem fY (l : List dY) : bB (l.map fL) = true:=cR aDF l
attribute [local simp] fY
theorem qA (x : dY) (n : Nat) (σ : List Nat) : (eG x).mapM (re n σ) = some (eG x):=by simp
attribute [local simp] qA
def dY.l (x : dY) : List Bool:=[x.a0,x.a1,x.a2,x.a3,x.a4,x.a5,x.a6]
def dY.ofl (l : List Bool) : dY:=⟨l[0]?.getD default,l[1]?.getD default,l[2]?.getD default,l[3]?.getD default,l[4]?.getD default,l[5]?.getD default,l[6]?.getD default⟩
structure aL where
 shifts_ : dH
 planned_ : dY
 many_ : Int
 last_ : Int
 days_ : Int
 deriving Inhabited
def aJ (x : aL) : List AV:=[i6 x.shifts_.a0.Worker,i6 x.shifts_.a0.Day,i6 x.shifts_.a1.Worker,i6 x.shifts_.a1.Day,i6 x.shifts_.a2.Worker,i6 x.shifts_.a2.Day,i6 x.shifts_.a3.Worker,i6 x.shifts_.a3.Day,i6 x.shifts_.a4.Worker,i6 x.shifts_.a4.Day,i6 x.shifts_.a5.Worker,i6 x.shifts_.a5.Day,i6 x.shifts_.a6.Worker,i6 x.shifts_.a6.Day,.bool x.planned_.a0,.bool x.planned_.a1,.bool x.planned_.a2,.bool x.planned_.a3,.bool x.planned_.a4,.bool x.planned_.a5,.bool x.planned_.a6,i6 x.many_,i6 x.last_,i6 x.days_]
attribute [local simp] aJ
def aO (x : aL) : AV:=.agg (aJ x)
attribute [local simp] aO
theorem aAe (x : aL) : bB (aJ x) = true:=by simp
theorem aAf (x : aL) : (aO x).clean = true:=aAe x
theorem dK (l : List aL) : bB (l.map aO) = true:=cR aAf l
attribute [local simp] dK
theorem lF (x : aL) (n : Nat) (σ : List Nat) : (aJ x).mapM (re n σ) = some (aJ x):=by simp
attribute [local simp] lF
def asD (v : AV) : aL:=⟨.ofl ((List.range 7).map fun i => ⟨asI (v.cells.getD (2 * i) .junk),asI (v.cells.getD (2 * i + 1) .junk)⟩),.ofl ((List.range 7).map fun i => asB (v.cells.getD (14 + i) .junk)),asI (v.cells.getD 21 .junk),asI (v.cells.getD 22 .junk),asI (v.cells.getD 23 .junk)⟩
def dU (r : Int) : AV:=i6 r
attribute [local simp] dU
def dT (r : Int) : AV:=i6 r
attribute [local simp] dT
def hO (r : Int) : AV:=i6 r
noncomputable def qM (N : Nat) (a_1 : aL) (b_2 : aL) : Option (Int):=decV hO asI (evFn XW 300 F67 [(aO a_1),(aO b_2)] [])
attribute [local simp] hO
theorem zD (a_1 : aL) (b_2 : aL) : [(aO a_1),(aO b_2)].mapM (ren []) = some [(aO a_1),(aO b_2)]:=by simp
theorem zA (r : Int) (n n2 m : Nat) : back n n2 m (hO r) = some (hO r):=by simp
theorem yN (N : Nat) (a_1 : aL) (b_2 : aL) (r : Int) (h : qM N a_1 b_2 = some r) : Does Tryz.prog 67 [(aO a_1),(aO b_2)] [] fun v c => v = hO r ∧ c = [] :=
 mA.does ⟨_,_,mL aAE comp67 (rZ h),rfl,rfl⟩
structure aZ where
 jobs_ : (List bH)
 able_ : (List (List Int))
 after_ : (List Int)
 deriving Inhabited
def aF (x : aZ) : List AV:=[.sl (x.jobs_.map aI) none,.sl (x.able_.map (SV (AV.int .i64))) none,.sl (x.after_.map (AV.int .i64)) none]
attribute [local simp] aF
def aQ (x : aZ) : AV:=.agg (aF x)
attribute [local simp] aQ
theorem xK (x : aZ) : bB (aF x) = true:=by simp
theorem xL (x : aZ) : (aQ x).clean = true:=xK x
theorem cZ (l : List aZ) : bB (l.map aQ) = true:=cR xL l
attribute [local simp] cZ
theorem jI (x : aZ) (n : Nat) (σ : List Nat) : (aF x).mapM (re n σ) = some (aF x):=by simp
attribute [local simp] jI
def kR (N : Nat) (s_1 : aH) : Option (aZ):=(letJ (fun (b_2 : List (List Int)) (b_3 : List Int) => some (⟨s_1.Jobs,b_2,b_3⟩ : aZ)) (fun k_4 => (loop3 (fun rec_10 (y_7 : Int) (b_8 : List (List Int)) (b_9 : List Int) => (bif (decide (y_7 < ((s_1.Jobs.length : Nat) : Int))) then ((getI s_1.Jobs y_7).bind fun x_14 => ((idxI x_14.Skill 4).bind fun u_15 => ((([0,1,2,4] : List Int)[Int.toNat x_14.Skill]?).bind fun x_16 => ((cA N s_1 x_16).bind fun r_17 => ((iO b_8 ([r_17] : List (List Int))).bind fun l_19 => ((eX N s_1.Jobs y_7).bind fun r_20 => ((iO b_9 ([r_20] : List Int)).bind fun l_22 => (rec_10 (IntKind.i64.wrap (y_7 + 1)) l_19 l_22)))))))) else (k_4 b_8 b_9))) N 0 [] [])))
def iI (r : aZ) : AV:=(aQ r)
attribute [local simp] iI
theorem wF (s_1 : aH) : [(aC s_1)].mapM (ren []) = some [(aC s_1)]:=by simp
theorem wA (r : aZ) (n n2 m : Nat) : back n n2 m (iI r) = some (iI r):=by simp
theorem vU (N : Nat) (s_1 : aH) (r : aZ) (h : kR N s_1 = some r) : Does Tryz.prog 45 [(aC s_1)] [] fun v c => v = iI r ∧ c = []:=by
 unfold kR at h
 refine Does.ofL comp45 _ _ rfl rfl ?_
 refine Ex.seq (rg 2 [1,2] (mkS 39 [(1,.ptr 0 0),(2,.ptr 1 0)]) ⟨[(aB s_1),[.nils,.nils,.nils]],[]⟩ ?_)
 refine Ex.seq (rg 5 [1,2,3] (mkS 39 [(1,.ptr 0 0),(2,.ptr 1 0),(3,.ptr 2 0)]) ⟨[(aB s_1),[.nils,.nils,.nils],[.sl (s_1.Jobs.map aI) none,.nils,.nils]],[]⟩ ?_)
 refine Ex.seq (Ex.seq ?_)
 refine regH 4 [(2,.eq (i6 ((s_1.Jobs.length : Nat) : Int)))] [1,2,3,10,11,12] [AV.int .i64 (((s_1.Jobs.map aI).length : Nat) : Int) = AV.int .i64 ((s_1.Jobs.length : Nat) : Int)] (mkS 39 [(1,.ptr 0 0),(2,.ptr 1 0),(3,.ptr 2 0),(10,.sl (s_1.Jobs.map aI) none),(11,i6 ((s_1.Jobs.length : Nat) : Int)),(12,i6 0)]) (⟨[(aB s_1),[.nils,.nils,.nils],[.sl (s_1.Jobs.map aI) none,.nils,.nils]],[]⟩) (by kernel_rfl) ⟨lenM _ _,trivial⟩ rfl ?_
 obtain ⟨K_5,hK_6,h⟩:=letE h
 refine Ex.blockJ (fun a S => ∃ (b_2 : List (List Int)),∃ (b_3 : List Int),K_5 b_2 b_3 = some r ∧ a = mkS 39 [(2,.ptr 1 0),(3,.ptr 2 0)] ∧ S = ⟨[(aB s_1),[.nils,.nils,.nils],[.sl (s_1.Jobs.map aI) none,.sl (b_2.map (SV (AV.int .i64))) (some 0),.sl (b_3.map (AV.int .i64)) (some 1)]],[(b_2.length,1),(b_3.length,1)]⟩) ?_ ?_
 ·refine Ex.forget (nilB 2 1 1 [.sl (s_1.Jobs.map aI) none,.nils,.nils] rfl rfl) ?_
  refine Ex.forget (nilB 2 2 1 [.sl (s_1.Jobs.map aI) none,.sl (([] : List (List Int)).map (SV (AV.int .i64))) (some 0),.nils] rfl rfl) ?_
  refine Ex.castA (a2:=mkS 39 [(1,.ptr 0 0),(2,.ptr 1 0),(3,.ptr 2 0),(10,.sl (s_1.Jobs.map aI) none),(11,i6 ((s_1.Jobs.length : Nat) : Int)),(12,i6 0)]) (S2:=⟨[(aB s_1),[.nils,.nils,.nils],[.sl (s_1.Jobs.map aI) none,.sl (([] : List (List Int)).map (SV (AV.int .i64))) (some 0),.sl (([] : List Int).map (AV.int .i64)) (some 1)]],[(0,1),(0,1)]⟩) (by kernel_rfl) (by kernel_rfl) ?_
  obtain ⟨B_11,hB_12,h⟩:=vN h
  refine Ex.loopF (fun k a S => ∃ (y_7 : Int),∃ (b_8 : List (List Int)),∃ (b_9 : List Int),loop3 B_11 k y_7 b_8 b_9 = some r ∧ a = mkS 39 [(1,.ptr 0 0),(2,.ptr 1 0),(3,.ptr 2 0),(10,.sl (s_1.Jobs.map aI) none),(11,i6 ((s_1.Jobs.length : Nat) : Int)),(12,i6 y_7)] ∧ S = ⟨[(aB s_1),[.nils,.nils,.nils],[.sl (s_1.Jobs.map aI) none,.sl (b_8.map (SV (AV.int .i64))) (some 0),.sl (b_9.map (AV.int .i64)) (some 1)]],[(b_8.length,1),(b_9.length,1)]⟩) N ⟨_,_,aM.refl _ _ _,0,[],[],h,rfl,rfl⟩ ?_
  rintro k a S ⟨y_7,b_8,b_9,h,rfl,rfl⟩
  cases k with
  | zero => exact (vL h).elim
  | succ k =>
   replace h:=vM h hB_12
   refine Ex.seq (rg 1 [1,2,3,10,11,12,13] (mkS 39 [(1,.ptr 0 0),(2,.ptr 1 0),(3,.ptr 2 0),(10,.sl (s_1.Jobs.map aI) none),(11,i6 ((s_1.Jobs.length : Nat) : Int)),(12,i6 y_7),(13,.bool (decide (y_7 < ((s_1.Jobs.length : Nat) : Int))))]) ⟨[(aB s_1),[.nils,.nils,.nils],[.sl (s_1.Jobs.map aI) none,.sl (b_8.map (SV (AV.int .i64))) (some 0),.sl (b_9.map (AV.int .i64)) (some 1)]],[(b_8.length,1),(b_9.length,1)]⟩ ?_)
   refine Ex.seq ?_
   rcases aY h with ⟨hc_13,h⟩ | ⟨hc_13,h⟩
   ·refine Ex.condT _ rfl hc_13 ?_
    refine Ex.skip ?_
    refine Ex.seq ?_
    refine Ex.blockK ?_
    refine Ex.seq ?_
    obtain ⟨x_14,hx_14,h⟩:=bE h
    refine regH 6 [(1,.rop (aW x_14))] [1,2,3,4,5,10,11,12] [LGet (s_1.Jobs.map aI) y_7 3 (aW x_14)] (mkS 39 [(1,.ptr 0 0),(2,.ptr 1 0),(3,.ptr 2 0),(4,i6 y_7),(5,.ptr 3 0),(10,.sl (s_1.Jobs.map aI) none),(11,i6 ((s_1.Jobs.length : Nat) : Int)),(12,i6 y_7)]) (⟨[(aB s_1),[.nils,.nils,.nils],[.sl (s_1.Jobs.map aI) none,.sl (b_8.map (SV (AV.int .i64))) (some 0),.sl (b_9.map (AV.int .i64)) (some 1)],(aW x_14)],[(b_8.length,1),(b_9.length,1)]⟩) (by kernel_rfl) ⟨LGet.of hx_14 rfl,trivial⟩ rfl ?_
    refine Ex.seq ?_
    refine Ex.postF ?_
    obtain ⟨u_15,hu_15,h⟩:=bE h
    obtain ⟨x_16,hx_16,h⟩:=bE h
    obtain ⟨r_17,hr_17,h⟩:=bE h
    have hT_18 : fH Tryz.prog [⟨53,[(aC s_1),.int .u8 x_16],[],(dG r_17),[]⟩] ∧ eF [⟨53,[(aC s_1),.int .u8 x_16],[],(dG r_17),[]⟩]:=⟨⟨(jL N s_1 x_16 r_17 hr_17),rfl,trivial⟩,⟨trivial,trivial⟩⟩
    refine Ex.drawE (a1:=mkS 39 [(1,.ptr 0 0),(2,.ptr 1 0),(3,.ptr 2 0),(4,i6 y_7),(5,.ptr 3 0),(10,.sl (s_1.Jobs.map aI) none),(11,i6 ((s_1.Jobs.length : Nat) : Int)),(12,i6 y_7),(17,.ptr 2 1),(18,.sl (b_8.map (SV (AV.int .i64))) (some 0)),(19,(aC s_1)),(20,.ptr 3 1),(21,i6 x_14.Skill),(22,.rop (((([0,1,2,4] : List Int).map (AV.int .u8)).drop (Int.toNat x_14.Skill * 1)).take 1)),(23,.int .u8 x_16),(24,.sl (r_17.map (AV.int .i64)) none),(25,.sl (([r_17] : List (List Int)).map (SV (AV.int .i64))) (some 2))]) (dI hT_18.1) [] [(1,1)] [] ?_ ?_
    ·refine drS [0, 1, 2, 3] 7 [(5, .adr), (6, .ld (.int .u8 x_16))] [0 ≤ x_14.Skill ∧ x_14.Skill < ((4 : Nat) : Int) ∧ Int.toNat x_14.Skill * 1 ≤ (([0, 1, 2, 4] : List Int).map (AV.int .u8)).length, bN (((([0, 1, 2, 4] : List Int).map (AV.int .u8)).drop (Int.toNat x_14.Skill * 1)).take 1) 0 none = some (.int .u8 x_16)] (mkS 39 [(1, .ptr 0 0), (2, .ptr 1 0), (3, .ptr 2 0), (4, i6 y_7), (5, .ptr 3 0), (10, .sl (s_1.Jobs.map aI) none), (11, i6 ((s_1.Jobs.length : Nat) : Int)), (12, i6 y_7), (17, .ptr 2 1), (18, .sl (b_8.map (SV (AV.int .i64))) (some 0)), (19, (aC s_1)), (20, .ptr 3 1), (21, i6 x_14.Skill), (22, .rop (((([0, 1, 2, 4] : List Int).map (AV.int .u8)).drop (Int.toNat x_14.Skill * 1)).take 1)), (23, .int .u8 x_16)]) (by simp) (by kernel_rfl) ⟨adrT ([0, 1, 2, 4] : List Int) .u8 hu_15 (by decide), yG ([0, 1, 2, 4] : List Int) .u8 hx_16, trivial⟩ (by kernel_rfl) ?_
     refine drC hT_18.2 0 _ [(aC s_1),.int .u8 x_16] (dG r_17) rfl rfl rfl rfl rfl (fun _ => rfl) rfl (by simp; try rfl) (fun _ => jO _ _ _ _) ?_
     refine drR 2 1 (([r_17] : List (List Int)).map (SV (AV.int .i64))) rfl rfl (fun _ => by kernel_rfl) (by simp) rfl rfl ?_
     exact DrO.nil rfl
    ·dsimp only [List.getLastD_cons,List.getLastD_nil]
     obtain ⟨l_19,hl_19,h⟩:=bE h
     refine runH 3 [(0,.app (l_19.map (SV (AV.int .i64))) l_19.length)] [1,2,3,4,10,11,12] [LApp b_8.length (b_8.map (SV (AV.int .i64))) (([r_17] : List (List Int)).map (SV (AV.int .i64))) 1 (l_19.map (SV (AV.int .i64))) l_19.length] (mkS 39 [(1,.ptr 0 0),(2,.ptr 1 0),(3,.ptr 2 0),(4,i6 y_7),(10,.sl (s_1.Jobs.map aI) none),(11,i6 ((s_1.Jobs.length : Nat) : Int)),(12,i6 y_7)]) (⟨[(aB s_1),[.nils,.nils,.nils],[.sl (s_1.Jobs.map aI) none,.sl (l_19.map (SV (AV.int .i64))) (some 0),.sl (b_9.map (AV.int .i64)) (some 1)],(aW x_14)],[(l_19.length,1),(b_9.length,1),(1,1)]⟩) (by kernel_rfl) ⟨LApp.of hl_19 (fun _ => rfl),trivial⟩ ?_
     refine ExO.nil ?_
     refine ⟨mkS 39 [(1,.ptr 0 0),(2,.ptr 1 0),(3,.ptr 2 0),(4,i6 y_7),(10,.sl (s_1.Jobs.map aI) none),(11,i6 ((s_1.Jobs.length : Nat) : Int)),(12,i6 y_7)],⟨[(aB s_1),[.nils,.nils,.nils],[.sl (s_1.Jobs.map aI) none,.sl (l_19.map (SV (AV.int .i64))) (some 0),.sl (b_9.map (AV.int .i64)) (some 1)],(aW x_14)],[(l_19.length,1),(b_9.length,1),(1,1)]⟩,aM.refl _ _ _,?_⟩
     obtain ⟨r_20,hr_20,h⟩:=bE h
     have hT_21 : fH Tryz.prog [⟨65,[.sl (s_1.Jobs.map aI) none,i6 y_7],[],(dW r_20),[]⟩] ∧ eF [⟨65,[.sl (s_1.Jobs.map aI) none,i6 y_7],[],(dW r_20),[]⟩]:=⟨⟨(oR N s_1.Jobs y_7 r_20 hr_20),rfl,trivial⟩,⟨trivial,trivial⟩⟩
     refine Ex.drawE (a1:=mkS 39 [(1,.ptr 0 0),(2,.ptr 1 0),(3,.ptr 2 0),(4,i6 y_7),(10,.sl (s_1.Jobs.map aI) none),(11,i6 ((s_1.Jobs.length : Nat) : Int)),(12,i6 y_7),(28,.ptr 2 2),(29,.sl (b_9.map (AV.int .i64)) (some 1)),(30,.ptr 0 1),(31,.sl (s_1.Jobs.map aI) none),(32,i6 y_7),(33,i6 r_20),(34,.sl (([r_20] : List Int).map (AV.int .i64)) (some 3))]) (dI hT_21.1) [] [(1,1)] [] ?_ ?_
     ·refine drS [0, 1, 2, 3] 5 [] [] (mkS 39 [(1, .ptr 0 0), (2, .ptr 1 0), (3, .ptr 2 0), (4, i6 y_7), (10, .sl (s_1.Jobs.map aI) none), (11, i6 ((s_1.Jobs.length : Nat) : Int)), (12, i6 y_7), (28, .ptr 2 2), (29, .sl (b_9.map (AV.int .i64)) (some 1)), (30, .ptr 0 1), (31, .sl (s_1.Jobs.map aI) none), (32, i6 y_7)]) (by simp) (by kernel_rfl) trivial (by kernel_rfl) ?_
      refine drC hT_21.2 0 _ [.sl (s_1.Jobs.map aI) none,i6 y_7] (dW r_20) rfl rfl rfl rfl rfl (fun _ => rfl) rfl (by simp; try rfl) (fun _ => oU _ _ _ _) ?_
      refine drR 3 1 (([r_20] : List Int).map (AV.int .i64)) rfl rfl (fun _ => by kernel_rfl) (by simp) rfl rfl ?_
      exact DrO.nil rfl
     ·dsimp only [List.getLastD_cons,List.getLastD_nil]
      obtain ⟨l_22,hl_22,h⟩:=bE h
      refine runH 3 [(0,.app (l_22.map (AV.int .i64)) l_22.length)] [1,2,3,10,11,12] [LApp b_9.length (b_9.map (AV.int .i64)) (([r_20] : List Int).map (AV.int .i64)) 1 (l_22.map (AV.int .i64)) l_22.length] (mkS 39 [(1,.ptr 0 0),(2,.ptr 1 0),(3,.ptr 2 0),(10,.sl (s_1.Jobs.map aI) none),(11,i6 ((s_1.Jobs.length : Nat) : Int)),(12,i6 y_7)]) (⟨[(aB s_1),[.nils,.nils,.nils],[.sl (s_1.Jobs.map aI) none,.sl (l_19.map (SV (AV.int .i64))) (some 0),.sl (l_22.map (AV.int .i64)) (some 1)],(aW x_14)],[(l_19.length,1),(l_22.length,1),(1,1),(1,1)]⟩) (by kernel_rfl) ⟨LApp.of hl_22 (fun _ => rfl),trivial⟩ ?_
      refine ExO.nil ?_
      refine rg 2 [1,2,3,10,11,12] (mkS 39 [(1,.ptr 0 0),(2,.ptr 1 0),(3,.ptr 2 0),(10,.sl (s_1.Jobs.map aI) none),(11,i6 ((s_1.Jobs.length : Nat) : Int)),(12,i6 (IntKind.i64.wrap (y_7 + 1)))]) ⟨[(aB s_1),[.nils,.nils,.nils],[.sl (s_1.Jobs.map aI) none,.sl (l_19.map (SV (AV.int .i64))) (some 0),.sl (l_22.map (AV.int .i64)) (some 1)],(aW x_14)],[(l_19.length,1),(l_22.length,1),(1,1),(1,1)]⟩ ?_
      dsimp only
      exact ⟨_,_,bM (m:=39) 3 [0,1] [(1,.ptr 0 0),(2,.ptr 1 0),(3,.ptr 2 0),(10,.sl (s_1.Jobs.map aI) none),(11,i6 ((s_1.Jobs.length : Nat) : Int)),(12,i6 (IntKind.i64.wrap (y_7 + 1)))] [(aB s_1),[.nils,.nils,.nils],[.sl (s_1.Jobs.map aI) none,.sl (l_19.map (SV (AV.int .i64))) (some 0),.sl (l_22.map (AV.int .i64)) (some 1)]] [(l_19.length,1),(l_22.length,1)] (by simp [bD]) (by simp) ⟨rfl,rfl,rfl,(reN (fE _)),rfl,rfl,trivial⟩ (by simp) rfl (by decide),k,Nat.lt_succ_self k,(IntKind.i64.wrap (y_7 + 1)),l_19,l_22,h,rfl,rfl⟩
   ·refine Ex.condF _ rfl hc_13 ?_
    refine Ex.exit ?_
    (try simp only [reduceCtorEq,AEx.ex.injEq,Nat.reduceEqDiff,if_true,if_false])
    exact ⟨_,_,bQ [2,3],b_8,b_9,h,rfl,rfl⟩
 ·rintro a S ⟨b_2,b_3,h,rfl,rfl⟩
  subst hK_6
  refine Ex.seq (rg 2 [2] (mkS 39 [(2,.ptr 1 0)]) ⟨[(aB s_1),[.sl (s_1.Jobs.map aI) none,.sl (b_2.map (SV (AV.int .i64))) (some 0),.sl (b_3.map (AV.int .i64)) (some 1)],[.sl (s_1.Jobs.map aI) none,.sl (b_2.map (SV (AV.int .i64))) (some 0),.sl (b_3.map (AV.int .i64)) (some 1)]],[(b_2.length,1),(b_3.length,1)]⟩ ?_)
  refine Ex.ret ?_
  obtain rfl:=sJ h
  exact rt (.agg [.sl (s_1.Jobs.map aI) none,.sl (b_2.map (SV (AV.int .i64))) (some 0),.sl (b_3.map (AV.int .i64)) (some 1)])
def eB (r : Bool) : AV:=.bool r
noncomputable def lH (N : Nat) (p_1 : aZ) (d_2 : aL) (job_3 : Int) : Option (Bool):=decV eB asB (evFn XW 300 F81 [(aQ p_1),(aO d_2),i6 job_3] [])
attribute [local simp] eB
theorem rJ (p_1 : aZ) (d_2 : aL) (job_3 : Int) : [(aQ p_1),(aO d_2),i6 job_3].mapM (ren []) = some [(aQ p_1),(aO d_2),i6 job_3]:=by simp
theorem rE (r : Bool) (n n2 m : Nat) : back n n2 m (eB r) = some (eB r):=by simp
theorem qY (N : Nat) (p_1 : aZ) (d_2 : aL) (job_3 : Int) (r : Bool) (h : lH N p_1 d_2 job_3 = some r) : Does Tryz.prog 81 [(aQ p_1),(aO d_2),i6 job_3] [] fun v c => v = eB r ∧ c = [] :=
 mA.does ⟨_,_,mL aAE comp81 (rZ h),rfl,rfl⟩
def cH (r : Int) : AV:=i6 r
noncomputable def lI (N : Nat) (p_1 : aZ) (d_2 : aL) (job_3 : Int) : Option (Int):=decV cH asI (evFn XW 300 F82 [(aQ p_1),(aO d_2),i6 job_3] [])
attribute [local simp] cH
theorem rG (r : Int) (n n2 m : Nat) : back n n2 m (cH r) = some (cH r):=by simp
theorem rA (N : Nat) (p_1 : aZ) (d_2 : aL) (job_3 : Int) (r : Int) (h : lI N p_1 d_2 job_3 = some r) : Does Tryz.prog 82 [(aQ p_1),(aO d_2),i6 job_3] [] fun v c => v = cH r ∧ c = [] :=
 mA.does ⟨_,_,mL aAE comp82 (rZ h),rfl,rfl⟩
def eJ (r : Int) : AV:=i6 r
noncomputable def lY (N : Nat) (p_1 : aZ) (d_2 : aL) (worker_3 : Int) : Option (Int):=decV eJ asI (evFn XW 300 F83 [(aQ p_1),(aO d_2),i6 worker_3] [])
attribute [local simp] eJ
theorem sQ (p_1 : aZ) (d_2 : aL) (worker_3 : Int) : [(aQ p_1),(aO d_2),i6 worker_3].mapM (ren []) = some [(aQ p_1),(aO d_2),i6 worker_3]:=by simp
theorem sL (r : Int) (n n2 m : Nat) : back n n2 m (eJ r) = some (eJ r):=by simp
theorem sF (N : Nat) (p_1 : aZ) (d_2 : aL) (worker_3 : Int) (r : Int) (h : lY N p_1 d_2 worker_3 = some r) : Does Tryz.prog 83 [(aQ p_1),(aO d_2),i6 worker_3] [] fun v c => v = eJ r ∧ c = [] :=
 mA.does ⟨_,_,mL aAE comp83 (rZ h),rfl,rfl⟩
def tY (r : Int) : AV:=i6 r
attribute [local simp] tY
def cV (r : aL) : AV:=(aO r)
noncomputable def mT (N : Nat) (p_1 : aZ) (d_2 : aL) : Option (aL):=decV cV asD (evFn XW 300 F69 [(aQ p_1),(aO d_2)] [])
attribute [local simp] cV
theorem tS (r : aL) (n n2 m : Nat) : back n n2 m (cV r) = some (cV r):=by simp
theorem tL (N : Nat) (p_1 : aZ) (d_2 : aL) (r : aL) (h : mT N p_1 d_2 = some r) : Does Tryz.prog 69 [(aQ p_1),(aO d_2)] [] fun v c => v = cV r ∧ c = [] :=
 mA.does ⟨_,_,mL aAE comp69 (rZ h),rfl,rfl⟩
def eI (r : aL) : AV:=(aO r)
noncomputable def lX (N : Nat) (p_1 : aZ) (d_2 : aL) (job_3 : Int) (x_4 : aG) : Option (aL):=decV eI asD (evFn XW 300 F84 [(aQ p_1),(aO d_2),i6 job_3,(aA x_4)] [])
attribute [local simp] eI
theorem sP (p_1 : aZ) (d_2 : aL) (job_3 : Int) (x_4 : aG) : [(aQ p_1),(aO d_2),i6 job_3,(aA x_4)].mapM (ren []) = some [(aQ p_1),(aO d_2),i6 job_3,(aA x_4)]:=by simp
theorem sK (r : aL) (n n2 m : Nat) : back n n2 m (eI r) = some (eI r):=by simp
theorem sE (N : Nat) (p_1 : aZ) (d_2 : aL) (job_3 : Int) (x_4 : aG) (r : aL) (h : lX N p_1 d_2 job_3 x_4 = some r) : Does Tryz.prog 84 [(aQ p_1),(aO d_2),i6 job_3,(aA x_4)] [] fun v c => v = eI r ∧ c = [] :=
 mA.does ⟨_,_,mL aAE comp84 (rZ h),rfl,rfl⟩
noncomputable def iA (N : Nat) (p_1 : aZ) (d_2 : aL) : Option (aZ × aL):=some (p_1,d_2)
def fM (r : aZ × aL) : AV:=.fn 80 [] [.rop (aF r.1),.rop (aJ r.2)]
attribute [local simp] fM
theorem rK (p_1 : aZ) (d_2 : aL) : [(aQ p_1),(aO d_2)].mapM (ren []) = some [(aQ p_1),(aO d_2)]:=by simp
theorem rF (r : aZ × aL) (n n2 m : Nat) : back n n2 m (fM r) = some (fM r):=by simp
theorem qZ (N : Nat) (p_1 : aZ) (d_2 : aL) (r : aZ × aL) (h : iA N p_1 d_2 = some r) : Does Tryz.prog 68 [(aQ p_1),(aO d_2)] [] fun v c => v = fM r ∧ c = []:=by
 unfold iA at h
 refine Does.ofL comp68 _ _ rfl rfl ?_
 refine Ex.seq (rg 3 [2,3] (mkS 6 [(2,.ptr 0 0),(3,.ptr 1 0)]) ⟨[(aF p_1),(aJ d_2)],[]⟩ ?_)
 refine Ex.seq (rg 2 [4] (mkS 6 [(4,.fn 80 [] [.ptr 0 0,.ptr 1 0])]) ⟨[(aF p_1),(aJ d_2)],[]⟩ ?_)
 refine Ex.forget (bQ [4]) ?_
 refine Ex.castA (a2:=mkS 6 [(4,.fn 80 [] [.ptr 0 0,.ptr 1 0])]) (S2:=⟨[(aF p_1),(aJ d_2)],[]⟩) (by kernel_rfl) (by kernel_rfl) ?_
 obtain rfl:=sJ h
 refine Ex.forget (aFy 4 0 (aF p_1) _ rfl rfl) ?_
 refine Ex.forget (aFy 4 1 (aJ d_2) _ rfl rfl) ?_
 refine Ex.castA (a2:=mkS 6 [(4,.fn 80 [] [.rop (aF p_1),.rop (aJ d_2)])]) (S2:=⟨[[],[]],[]⟩) (by kernel_rfl) (by kernel_rfl) ?_
 refine Ex.ret ?_
 exact rt (.fn 80 [] [.rop (aF p_1),.rop (aJ d_2)])
noncomputable def iR (N : Nat) (p_1 : aZ) : Option (aL):=((mT N p_1 (⟨(⟨(⟨0,0⟩ : aG),(⟨0,0⟩ : aG),(⟨0,0⟩ : aG),(⟨0,0⟩ : aG),(⟨0,0⟩ : aG),(⟨0,0⟩ : aG),(⟨0,0⟩ : aG)⟩ : dH),(⟨false,false,false,false,false,false,false⟩ : dY),0,(-1),0⟩ : aL)).bind fun r_2 => (letJ (fun (z_11 : aL) (b_12 : Bool) => some z_11) (fun k_117 => ((loop3 (ρ:=(aL × Bool)) (fun rec_13 (d_8 : aL) (z_9 : aL) (b_10 : Bool) => (letJ (fun (z_21 : aL) (b_22 : Bool) => some (z_21,b_22)) (fun k_23 => (letJ (fun (y_26 : Bool) => (bif y_26 then (k_23 z_9 b_10) else (bif (d_8.many_ == ((p_1.jobs_.length : Nat) : Int)) then (k_23 d_8 true) else ((iA N p_1 d_8).bind fun r_34 => (letJ (fun (z_42 : aL) (b_43 : Bool) => (k_23 z_42 b_43)) (fun k_44 => (letJ (fun (z_47 : aL) (b_48 : Bool) => (k_44 z_47 b_48)) (fun k_49 => (loop3 (fun rec_55 (y_52 : Int) (z_53 : aL) (b_54 : Bool) => (bif (decide (y_52 < ((r_34.1.jobs_.length : Nat) : Int))) then (letJ (fun (z_59 : aL) (b_60 : Bool) => (rec_55 (IntKind.i64.wrap (y_52 + 1)) z_59 b_60)) (fun k_61 => (letJ (fun (y_64 : Bool) => (bif y_64 then (k_61 z_53 b_54) else ((getI r_34.1.able_ y_52).bind fun x_72 => (letJ (fun (z_73 : aL) (b_74 : Bool) => (k_61 z_73 b_74)) (fun k_75 => (loop3 (fun rec_81 (y_78 : Int) (z_79 : aL) (b_80 : Bool) => (bif (decide (y_78 < ((x_72.length : Nat) : Int))) then (letJ (fun (z_85 : aL) (b_86 : Bool) => (rec_81 (IntKind.i64.wrap (y_78 + 1)) z_85 b_86)) (fun k_87 => ((getI x_72 y_78).bind fun x_90 => ((lI N r_34.1 r_34.2 y_52).bind fun r_91 => ((lY N r_34.1 r_34.2 x_90).bind fun r_93 => ((getA r_34.2.shifts_.l y_52 7).bind fun x_94 => (bif (decide ((if r_93 > r_91 then r_93 else r_91) < x_94.Day)) then (k_87 z_79 b_80) else ((lX N r_34.1 r_34.2 y_52 (⟨x_90,(if r_93 > r_91 then r_93 else r_91)⟩ : aG)).bind fun r_96 => (letJ (fun (z_105 : aL) (b_106 : Bool) => (k_87 z_105 b_106)) (fun k_107 => (letJ (fun (z_112 : aL) (b_113 : Bool) => (k_107 z_112 b_113)) (fun k_114 => ((rec_13 r_96 z_79 b_80).bind fun s_110 => ((fun t => k_114 t.1 t.2) s_110)))))))))))))) else (k_75 z_79 b_80))) N 0 z_53 b_54)))))) (fun k_65 => ((getA r_34.2.planned_.l y_52 7).bind fun x_68 => (bif x_68 then (k_65 true) else ((lH N r_34.1 r_34.2 y_52).bind fun r_70 => (k_65 r_70)))))))) else (k_49 z_53 b_54))) N 0 z_9 b_10))))))))) (fun k_27 => (bif b_10 then ((qM N d_8 z_9).bind fun r_31 => (k_27 (decide (r_31 ≥ 0)))) else (k_27 false))))))) N r_2 (⟨(⟨(⟨0,0⟩ : aG),(⟨0,0⟩ : aG),(⟨0,0⟩ : aG),(⟨0,0⟩ : aG),(⟨0,0⟩ : aG),(⟨0,0⟩ : aG),(⟨0,0⟩ : aG)⟩ : dH),(⟨false,false,false,false,false,false,false⟩ : dY),0,0,0⟩ : aL) false).bind fun s_19 => ((fun t => k_117 t.1 t.2) s_19)))))
def gA (r : aL) : AV:=(aO r)
attribute [local simp] gA
theorem sR (p_1 : aZ) : [(aQ p_1)].mapM (ren []) = some [(aQ p_1)]:=by simp
theorem sM (r : aL) (n n2 m : Nat) : back n n2 m (gA r) = some (gA r):=by simp
theorem sG (N : Nat) (p_1 : aZ) (r : aL) (h : iR N p_1 = some r) : Does Tryz.prog 46 [(aQ p_1)] [] fun v c => v = gA r ∧ c = []:=by
 unfold iR at h
 refine Does.ofL comp46 _ _ rfl rfl ?_
 refine Ex.seq (rg 2 [1,2] (mkS 14 [(1,.ptr 0 0),(2,.ptr 1 0)]) ⟨[(aF p_1),[i6 0,i6 0,i6 0,i6 0,i6 0,i6 0,i6 0,i6 0,i6 0,i6 0,i6 0,i6 0,i6 0,i6 0,.bool false,.bool false,.bool false,.bool false,.bool false,.bool false,.bool false,i6 0,i6 0,i6 0]],[]⟩ ?_)
 refine Ex.seq (rg 5 [1,2,3,4] (mkS 14 [(1,.ptr 0 0),(2,.ptr 1 0),(3,.ptr 2 0),(4,.ptr 3 0)]) ⟨[(aF p_1),[i6 0,i6 0,i6 0,i6 0,i6 0,i6 0,i6 0,i6 0,i6 0,i6 0,i6 0,i6 0,i6 0,i6 0,.bool false,.bool false,.bool false,.bool false,.bool false,.bool false,.bool false,i6 0,i6 0,i6 0],[i6 0,i6 0,i6 0,i6 0,i6 0,i6 0,i6 0,i6 0,i6 0,i6 0,i6 0,i6 0,i6 0,i6 0,.bool false,.bool false,.bool false,.bool false,.bool false,.bool false,.bool false,i6 0,i6 0,i6 0],[.bool false]],[]⟩ ?_)
 refine Ex.seq (rg 1 [1,2,3,4,5] (mkS 14 [(1,.ptr 0 0),(2,.ptr 1 0),(3,.ptr 2 0),(4,.ptr 3 0),(5,.ptr 4 0)]) ⟨[(aF p_1),[i6 0,i6 0,i6 0,i6 0,i6 0,i6 0,i6 0,i6 0,i6 0,i6 0,i6 0,i6 0,i6 0,i6 0,.bool false,.bool false,.bool false,.bool false,.bool false,.bool false,.bool false,i6 0,i6 0,i6 0],[i6 0,i6 0,i6 0,i6 0,i6 0,i6 0,i6 0,i6 0,i6 0,i6 0,i6 0,i6 0,i6 0,i6 0,.bool false,.bool false,.bool false,.bool false,.bool false,.bool false,.bool false,i6 0,i6 0,i6 0],[.bool false],[.nilf]],[]⟩ ?_)
 refine Ex.seq (rg 2 [1,2,3,5] (mkS 14 [(1,.ptr 0 0),(2,.ptr 1 0),(3,.ptr 2 0),(5,.ptr 4 0)]) ⟨[(aF p_1),[i6 0,i6 0,i6 0,i6 0,i6 0,i6 0,i6 0,i6 0,i6 0,i6 0,i6 0,i6 0,i6 0,i6 0,.bool false,.bool false,.bool false,.bool false,.bool false,.bool false,.bool false,i6 0,i6 0,i6 0],[i6 0,i6 0,i6 0,i6 0,i6 0,i6 0,i6 0,i6 0,i6 0,i6 0,i6 0,i6 0,i6 0,i6 0,.bool false,.bool false,.bool false,.bool false,.bool false,.bool false,.bool false,i6 0,i6 0,i6 0],[.bool false],[.fn 66 [] [.ptr 3 0,.ptr 2 0,.ptr 0 0,.ptr 4 0]]],[]⟩ ?_)
 refine Ex.seq ?_
 obtain ⟨r_2,hr_2,h⟩:=bE h
 have hT_3 : fH Tryz.prog [⟨69,[(aQ p_1),.agg [i6 0,i6 0,i6 0,i6 0,i6 0,i6 0,i6 0,i6 0,i6 0,i6 0,i6 0,i6 0,i6 0,i6 0,.bool false,.bool false,.bool false,.bool false,.bool false,.bool false,.bool false,i6 0,i6 (-1),i6 0]],[],(cV r_2),[]⟩] ∧ eF [⟨69,[(aQ p_1),.agg [i6 0,i6 0,i6 0,i6 0,i6 0,i6 0,i6 0,i6 0,i6 0,i6 0,i6 0,i6 0,i6 0,i6 0,.bool false,.bool false,.bool false,.bool false,.bool false,.bool false,.bool false,i6 0,i6 (-1),i6 0]],[],(cV r_2),[]⟩]:=⟨⟨(tL N p_1 (⟨(⟨(⟨0,0⟩ : aG),(⟨0,0⟩ : aG),(⟨0,0⟩ : aG),(⟨0,0⟩ : aG),(⟨0,0⟩ : aG),(⟨0,0⟩ : aG),(⟨0,0⟩ : aG)⟩ : dH),(⟨false,false,false,false,false,false,false⟩ : dY),0,(-1),0⟩ : aL) r_2 hr_2),rfl,trivial⟩,⟨trivial,trivial⟩⟩
 refine Ex.drawE (a1:=mkS 14 [(1,.ptr 0 0),(2,.ptr 1 0),(3,.ptr 2 0),(5,.ptr 4 0),(8,.fn 66 [] [.ptr 3 0,.ptr 2 0,.ptr 0 0,.ptr 4 0]),(9,(aQ p_1)),(10,.agg [i6 0,i6 0,i6 0,i6 0,i6 0,i6 0,i6 0,i6 0,i6 0,i6 0,i6 0,i6 0,i6 0,i6 0,.bool false,.bool false,.bool false,.bool false,.bool false,.bool false,.bool false,i6 0,i6 (-1),i6 0]),(11,(aO r_2))]) (dI hT_3.1) [] [] [] ?_ ?_
 ·refine drS [0, 1, 2, 3, 4] 3 [] [] (mkS 14 [(1, .ptr 0 0), (2, .ptr 1 0), (3, .ptr 2 0), (5, .ptr 4 0), (8, .fn 66 [] [.ptr 3 0, .ptr 2 0, .ptr 0 0, .ptr 4 0]), (9, (aQ p_1)), (10, .agg [i6 0, i6 0, i6 0, i6 0, i6 0, i6 0, i6 0, i6 0, i6 0, i6 0, i6 0, i6 0, i6 0, i6 0, .bool false, .bool false, .bool false, .bool false, .bool false, .bool false, .bool false, i6 0, i6 (-1), i6 0])]) (by simp) (by kernel_rfl) trivial (by kernel_rfl) ?_
  refine drC hT_3.2 0 _ [(aQ p_1),.agg [i6 0,i6 0,i6 0,i6 0,i6 0,i6 0,i6 0,i6 0,i6 0,i6 0,i6 0,i6 0,i6 0,i6 0,.bool false,.bool false,.bool false,.bool false,.bool false,.bool false,.bool false,i6 0,i6 (-1),i6 0]] (cV r_2) rfl rfl rfl rfl rfl (fun _ => rfl) rfl (by simp; try rfl) (fun _ => tS _ _ _ _) ?_
  exact DrO.nil rfl
 ·dsimp only [List.getLastD_cons,List.getLastD_nil]
  obtain ⟨K_118,hK_119,h⟩:=letE h
  obtain ⟨s_19,hs_20,h⟩:=bE h
  obtain ⟨B_14,hB_15,hs_20⟩:=vN hs_20
  have hY_18 : ∀ (k : Nat) (d_8 : aL) (z_9 : aL) (b_10 : Bool) (r : (aL × Bool)),loop3 B_14 k d_8 z_9 b_10 = some r → ∀ (cx_4 : Cx),cx_4.n = 5 → cx_4.m = 0 → (∀ L' a' ps' x' y',LpOk Tryz.prog (Cx.nat 0) L' a' ps' x' y' → LpOk Tryz.prog cx_4 L' a' ps' x' y') → Ex cx_4 .plain Tryz.prog F66.code (mkS 30 [(0,(aO d_8)),(1,.ptr 3 0),(2,.ptr 2 0),(3,.ptr 0 0),(4,.ptr 4 0),(5,.tup []),(6,.tup []),(7,.tup []),(8,.tup []),(9,.tup []),(10,.tup []),(11,.tup []),(12,.tup []),(13,.tup []),(14,.tup []),(15,.tup []),(16,.tup []),(17,.tup []),(18,.tup []),(19,.tup []),(20,.tup []),(21,.tup []),(22,.tup []),(23,.tup []),(24,.tup []),(25,.tup []),(26,.tup []),(27,.tup []),(28,.tup []),(29,.tup [])]) (⟨[(aF p_1),[i6 0,i6 0,i6 0,i6 0,i6 0,i6 0,i6 0,i6 0,i6 0,i6 0,i6 0,i6 0,i6 0,i6 0,.bool false,.bool false,.bool false,.bool false,.bool false,.bool false,.bool false,i6 0,i6 0,i6 0],(aJ z_9),[.bool b_10],[.fn 66 [] [.ptr 3 0,.ptr 2 0,.ptr 0 0,.ptr 4 0]]],[]⟩) fun z a' S' => ∃ a2 S2,aM cx_4 a' S' a2 S2 ∧ (z = .norm ∨ z = .ret) ∧ ∃ v,iE a2 S2 F66.res = some v ∧ (fun v S => (∃ (z_11 : aL),∃ (b_12 : Bool),(z_11,b_12) = r ∧ v = .tup [] ∧ S = ⟨[(aF p_1),[i6 0,i6 0,i6 0,i6 0,i6 0,i6 0,i6 0,i6 0,i6 0,i6 0,i6 0,i6 0,i6 0,i6 0,.bool false,.bool false,.bool false,.bool false,.bool false,.bool false,.bool false,i6 0,i6 0,i6 0],(aJ z_11),[.bool b_12],[.fn 66 [] [.ptr 3 0,.ptr 2 0,.ptr 0 0,.ptr 4 0]]],[]⟩)) v S2:=by
   intro k_16
   induction k_16 with
   | zero => intro d_8 z_9 b_10 r h; exact (vL h).elim
   | succ k ih_17 =>
    intro d_8 z_9 b_10 r h cx_4 hcn_5 hcm_6 hup_7
    replace h:=vM h hB_15
    refine Ex.seq (rg 1 [1,2,3,4,5] (mkS 30 [(1,.ptr 3 0),(2,.ptr 2 0),(3,.ptr 0 0),(4,.ptr 4 0),(5,.ptr 5 0)]) ⟨[(aF p_1),[i6 0,i6 0,i6 0,i6 0,i6 0,i6 0,i6 0,i6 0,i6 0,i6 0,i6 0,i6 0,i6 0,i6 0,.bool false,.bool false,.bool false,.bool false,.bool false,.bool false,.bool false,i6 0,i6 0,i6 0],(aJ z_9),[.bool b_10],[.fn 66 [] [.ptr 3 0,.ptr 2 0,.ptr 0 0,.ptr 4 0]],(aJ d_8)],[]⟩ ?_)
    obtain ⟨K_24,hK_25,h⟩:=letE h
    refine Ex.blockJ (fun a S => ∃ (z_21 : aL),∃ (b_22 : Bool),K_24 z_21 b_22 = some r ∧ a = mkS 30 [] ∧ S = ⟨[(aF p_1),[i6 0,i6 0,i6 0,i6 0,i6 0,i6 0,i6 0,i6 0,i6 0,i6 0,i6 0,i6 0,i6 0,i6 0,.bool false,.bool false,.bool false,.bool false,.bool false,.bool false,.bool false,i6 0,i6 0,i6 0],(aJ z_21),[.bool b_22],[.fn 66 [] [.ptr 3 0,.ptr 2 0,.ptr 0 0,.ptr 4 0]]],[]⟩) ?_ ?_
    ·obtain ⟨K_28,hK_29,h⟩:=letE h
     refine Ex.seqJ (fun a S => ∃ (y_26 : Bool),K_28 y_26 = some r ∧ a = mkS 30 [(1,.ptr 3 0),(2,.ptr 2 0),(3,.ptr 0 0),(4,.ptr 4 0),(5,.ptr 5 0),(14,.bool y_26)] ∧ S = ⟨[(aF p_1),[i6 0,i6 0,i6 0,i6 0,i6 0,i6 0,i6 0,i6 0,i6 0,i6 0,i6 0,i6 0,i6 0,i6 0,.bool false,.bool false,.bool false,.bool false,.bool false,.bool false,.bool false,i6 0,i6 0,i6 0],(aJ z_9),[.bool b_10],[.fn 66 [] [.ptr 3 0,.ptr 2 0,.ptr 0 0,.ptr 4 0]],(aJ d_8)],[]⟩) ?_ ?_
     ·rcases aY h with ⟨hc_30,h⟩ | ⟨hc_30,h⟩
      ·obtain ⟨r_31,hr_31,h⟩:=bE h
       refine Ex.reg ?_
       refine runH 4 [(1,.eq (.bool true))] [1,2,3,4,5,16,17,18] [AV.bool b_10 = AV.bool true] (mkS 30 [(1,.ptr 3 0),(2,.ptr 2 0),(3,.ptr 0 0),(4,.ptr 4 0),(5,.ptr 5 0),(16,.bool true),(17,(aO d_8)),(18,(aO z_9))]) (⟨[(aF p_1),[i6 0,i6 0,i6 0,i6 0,i6 0,i6 0,i6 0,i6 0,i6 0,i6 0,i6 0,i6 0,i6 0,i6 0,.bool false,.bool false,.bool false,.bool false,.bool false,.bool false,.bool false,i6 0,i6 0,i6 0],(aJ z_9),[.bool b_10],[.fn 66 [] [.ptr 3 0,.ptr 2 0,.ptr 0 0,.ptr 4 0]],(aJ d_8)],[]⟩) (by kernel_rfl) ⟨congrArg AV.bool hc_30,trivial⟩ ?_
       refine ExO.callL [] [(aO d_8),(aO z_9)] rfl rfl (zD d_8 z_9) rfl rfl (yN N d_8 z_9 r_31 hr_31) (zA _ _ _ _) rfl ?_
       refine rn 3 [1,2,3,4,5,14] (mkS 30 [(1,.ptr 3 0),(2,.ptr 2 0),(3,.ptr 0 0),(4,.ptr 4 0),(5,.ptr 5 0),(14,.bool (decide (r_31 ≥ 0)))]) ⟨[(aF p_1),[i6 0,i6 0,i6 0,i6 0,i6 0,i6 0,i6 0,i6 0,i6 0,i6 0,i6 0,i6 0,i6 0,i6 0,.bool false,.bool false,.bool false,.bool false,.bool false,.bool false,.bool false,i6 0,i6 0,i6 0],(aJ z_9),[.bool b_10],[.fn 66 [] [.ptr 3 0,.ptr 2 0,.ptr 0 0,.ptr 4 0]],(aJ d_8)],[]⟩ ?_
       refine ExO.nil ?_
       (try simp only [reduceCtorEq,AEx.ex.injEq,Nat.reduceEqDiff,if_true,if_false])
       exact ⟨_,_,aM.refl _ _ _,(decide (r_31 ≥ 0)),h,rfl,rfl⟩
      ·refine regH 8 [(1, .eq (.bool false))] [1, 2, 3, 4, 5, 14] [AV.bool b_10 = AV.bool false] (mkS 30 [(1, .ptr 3 0), (2, .ptr 2 0), (3, .ptr 0 0), (4, .ptr 4 0), (5, .ptr 5 0), (14, .bool false)]) (⟨[(aF p_1), [i6 0, i6 0, i6 0, i6 0, i6 0, i6 0, i6 0, i6 0, i6 0, i6 0, i6 0, i6 0, i6 0, i6 0, .bool false, .bool false, .bool false, .bool false, .bool false, .bool false, .bool false, i6 0, i6 0, i6 0], (aJ z_9), [.bool b_10], [.fn 66 [] [.ptr 3 0, .ptr 2 0, .ptr 0 0, .ptr 4 0]], (aJ d_8)], []⟩) (by kernel_rfl) ⟨congrArg AV.bool hc_30, trivial⟩ rfl ?_
       (try simp only [reduceCtorEq,AEx.ex.injEq,Nat.reduceEqDiff,if_true,if_false])
       exact ⟨_,_,aM.refl _ _ _,false,h,rfl,rfl⟩
     ·rintro a S ⟨y_26,h,rfl,rfl⟩
      subst hK_29
      rcases aY h with ⟨hc_32,h⟩ | ⟨hc_32,h⟩
      ·refine Ex.condT _ rfl hc_32 ?_
       refine Ex.skip ?_
       (try simp only [reduceCtorEq,AEx.ex.injEq,Nat.reduceEqDiff,if_true,if_false])
       exact ⟨_,_,bM (m:=30) 5 [] [] [(aF p_1),[i6 0,i6 0,i6 0,i6 0,i6 0,i6 0,i6 0,i6 0,i6 0,i6 0,i6 0,i6 0,i6 0,i6 0,.bool false,.bool false,.bool false,.bool false,.bool false,.bool false,.bool false,i6 0,i6 0,i6 0],(aJ z_9),[.bool b_10],[.fn 66 [] [.ptr 3 0,.ptr 2 0,.ptr 0 0,.ptr 4 0]]] [] (leC hcn_5 (by simp [bD])) (by simp) trivial (by simp) rfl (by decide) (sig0 0 hcm_6 rfl),z_9,b_10,h,rfl,rfl⟩
      ·refine Ex.condF _ rfl hc_32 ?_
       refine Ex.seq ?_
       refine regH 7 [(4,.eq (i6 ((p_1.jobs_.length : Nat) : Int)))] [1,2,3,4,5,22] [AV.int .i64 (((p_1.jobs_.map aI).length : Nat) : Int) = AV.int .i64 ((p_1.jobs_.length : Nat) : Int)] (mkS 30 [(1,.ptr 3 0),(2,.ptr 2 0),(3,.ptr 0 0),(4,.ptr 4 0),(5,.ptr 5 0),(22,.bool (d_8.many_ == ((p_1.jobs_.length : Nat) : Int)))]) (⟨[(aF p_1),[i6 0,i6 0,i6 0,i6 0,i6 0,i6 0,i6 0,i6 0,i6 0,i6 0,i6 0,i6 0,i6 0,i6 0,.bool false,.bool false,.bool false,.bool false,.bool false,.bool false,.bool false,i6 0,i6 0,i6 0],(aJ z_9),[.bool b_10],[.fn 66 [] [.ptr 3 0,.ptr 2 0,.ptr 0 0,.ptr 4 0]],(aJ d_8)],[]⟩) (by kernel_rfl) ⟨lenM _ _,trivial⟩ rfl ?_
       rcases aY h with ⟨hc_33,h⟩ | ⟨hc_33,h⟩
       ·refine Ex.condT _ rfl hc_33 ?_
        refine rg 3 [] (mkS 30 []) ⟨[(aF p_1),[i6 0,i6 0,i6 0,i6 0,i6 0,i6 0,i6 0,i6 0,i6 0,i6 0,i6 0,i6 0,i6 0,i6 0,.bool false,.bool false,.bool false,.bool false,.bool false,.bool false,.bool false,i6 0,i6 0,i6 0],(aJ d_8),[.bool true],[.fn 66 [] [.ptr 3 0,.ptr 2 0,.ptr 0 0,.ptr 4 0]],(aJ d_8)],[]⟩ ?_
        (try simp only [reduceCtorEq,AEx.ex.injEq,Nat.reduceEqDiff,if_true,if_false])
        exact ⟨_,_,bM (m:=30) 5 [] [] [(aF p_1),[i6 0,i6 0,i6 0,i6 0,i6 0,i6 0,i6 0,i6 0,i6 0,i6 0,i6 0,i6 0,i6 0,i6 0,.bool false,.bool false,.bool false,.bool false,.bool false,.bool false,.bool false,i6 0,i6 0,i6 0],(aJ d_8),[.bool true],[.fn 66 [] [.ptr 3 0,.ptr 2 0,.ptr 0 0,.ptr 4 0]]] [] (leC hcn_5 (by simp [bD])) (by simp) trivial (by simp) rfl (by decide) (sig0 0 hcm_6 rfl),d_8,true,h,rfl,rfl⟩
       ·refine Ex.condF _ rfl hc_33 ?_
        refine Ex.seq ?_
        obtain ⟨r_34,hr_34,h⟩:=bE h
        refine Ex.reg (rn 2 [4,7,8] (mkS 30 [(4,.ptr 4 0),(7,(aQ p_1)),(8,(aO d_8))]) ⟨[(aF p_1),[i6 0,i6 0,i6 0,i6 0,i6 0,i6 0,i6 0,i6 0,i6 0,i6 0,i6 0,i6 0,i6 0,i6 0,.bool false,.bool false,.bool false,.bool false,.bool false,.bool false,.bool false,i6 0,i6 0,i6 0],(aJ z_9),[.bool b_10],[.fn 66 [] [.ptr 3 0,.ptr 2 0,.ptr 0 0,.ptr 4 0]],(aJ d_8)],[]⟩ ?_)
        refine ExO.callL [] [(aQ p_1),(aO d_8)] rfl rfl (rK p_1 d_8) rfl rfl (qZ N p_1 d_8 r_34 hr_34) (rF _ _ _ _) rfl ?_
        refine rn 0 [4,9] (mkS 30 [(4,.ptr 4 0),(9,.fn 80 [] [.rop (aF r_34.1),.rop (aJ r_34.2)])]) ⟨[(aF p_1),[i6 0,i6 0,i6 0,i6 0,i6 0,i6 0,i6 0,i6 0,i6 0,i6 0,i6 0,i6 0,i6 0,i6 0,.bool false,.bool false,.bool false,.bool false,.bool false,.bool false,.bool false,i6 0,i6 0,i6 0],(aJ z_9),[.bool b_10],[.fn 66 [] [.ptr 3 0,.ptr 2 0,.ptr 0 0,.ptr 4 0]],(aJ d_8)],[]⟩ ?_
        refine ExO.nil ?_
        refine Ex.blockK ?_
        refine Ex.forget (bM (m:=30) 5 [] [(4,.ptr 4 0),(9,.fn 80 [] [.rop (aF r_34.1),.rop (aJ r_34.2)])] [(aF p_1),[i6 0,i6 0,i6 0,i6 0,i6 0,i6 0,i6 0,i6 0,i6 0,i6 0,i6 0,i6 0,i6 0,i6 0,.bool false,.bool false,.bool false,.bool false,.bool false,.bool false,.bool false,i6 0,i6 0,i6 0],(aJ z_9),[.bool b_10],[.fn 66 [] [.ptr 3 0,.ptr 2 0,.ptr 0 0,.ptr 4 0]]] [] (leC hcn_5 (by simp [bD])) (by simp) ⟨rfl,(by show re 5 [] (.fn 80 [] [.rop (aF r_34.1),.rop (aJ r_34.2)]) = some (.fn 80 [] [.rop (aF r_34.1),.rop (aJ r_34.2)]); simp [re,re1,AV.clean,List.idxOf?,List.findIdx?,List.findIdx?.go,bB,fX,dS,gB,fR,dB,dC,fE,dN,cF,cJ,eV,fY,dK,cZ,cT,aK,aE,aU,aI,aW,aC,aB,aA,aN,bO,bP,eH,dP,fL,eG,aO,aJ,aQ,aF]),trivial⟩ (by simp) rfl (by decide) (sig0 0 hcm_6 rfl)) ?_
        refine Ex.castA (a2:=mkS 30 [(4,.ptr 4 0),(9,.fn 80 [] [.rop (aF r_34.1),.rop (aJ r_34.2)])]) (S2:=⟨[(aF p_1),[i6 0,i6 0,i6 0,i6 0,i6 0,i6 0,i6 0,i6 0,i6 0,i6 0,i6 0,i6 0,i6 0,i6 0,.bool false,.bool false,.bool false,.bool false,.bool false,.bool false,.bool false,i6 0,i6 0,i6 0],(aJ z_9),[.bool b_10],[.fn 66 [] [.ptr 3 0,.ptr 2 0,.ptr 0 0,.ptr 4 0]]],[]⟩) (by kernel_rfl) (by kernel_rfl) ?_
        obtain ⟨K_45,hK_46,h⟩:=letE h
        refine Ex.rangeJ (fun k S => (k = 0 ∧ ∃ (z_42 : aL),∃ (b_43 : Bool),K_45 z_42 b_43 = some r ∧ S = ⟨[(aF p_1),[i6 0,i6 0,i6 0,i6 0,i6 0,i6 0,i6 0,i6 0,i6 0,i6 0,i6 0,i6 0,i6 0,i6 0,.bool false,.bool false,.bool false,.bool false,.bool false,.bool false,.bool false,i6 0,i6 0,i6 0],(aJ z_42),[.bool b_43],[.fn 66 [] [.ptr 3 0,.ptr 2 0,.ptr 0 0,.ptr 4 0]]],[(0,0)]⟩)) 80 [.rop (aF r_34.1),.rop (aJ r_34.2)] _ rfl comp80 rfl (leC hcn_5 (by simp [bD])) (by exact trivial) (mkS 62 [(1,.rop (aF r_34.1)),(2,.rop (aJ r_34.2)),(3,.tup []),(4,.tup []),(5,.tup []),(6,.tup []),(7,.tup []),(8,.tup []),(9,.tup []),(10,.tup []),(11,.tup []),(12,.tup []),(13,.tup []),(14,.tup []),(15,.tup []),(16,.tup []),(17,.tup []),(18,.tup []),(19,.tup []),(20,.tup []),(21,.tup []),(22,.tup []),(23,.tup []),(24,.tup []),(25,.tup []),(26,.tup []),(27,.tup []),(28,.tup []),(29,.tup []),(30,.tup []),(31,.tup []),(32,.tup []),(33,.tup []),(34,.tup []),(35,.tup []),(36,.tup []),(37,.tup []),(38,.tup []),(39,.tup []),(40,.tup []),(41,.tup []),(42,.tup []),(43,.tup []),(44,.tup []),(45,.tup []),(46,.tup []),(47,.tup []),(48,.tup []),(49,.tup []),(50,.tup []),(51,.tup []),(52,.tup []),(53,.tup []),(54,.tup []),(55,.tup []),(56,.tup []),(57,.tup []),(58,.tup []),(59,.tup []),(60,.tup []),(61,.tup [])]) (⟨[(aF p_1),[i6 0,i6 0,i6 0,i6 0,i6 0,i6 0,i6 0,i6 0,i6 0,i6 0,i6 0,i6 0,i6 0,i6 0,.bool false,.bool false,.bool false,.bool false,.bool false,.bool false,.bool false,i6 0,i6 0,i6 0],(aJ z_9),[.bool b_10],[.fn 66 [] [.ptr 3 0,.ptr 2 0,.ptr 0 0,.ptr 4 0]]],[(0,0)]⟩) (fun _ => by kernel_rfl) (by kernel_rfl) ?_ ?_
        ·intro cx_36 Lp_35 hcn_37 hcm_38 hLt_39 hL_40 hup_41
         refine Ex.castA (a2:=mkS 62 [(0,.yld Lp_35.l 0),(1,.rop (aF r_34.1)),(2,.rop (aJ r_34.2)),(3,.tup []),(4,.tup []),(5,.tup []),(6,.tup []),(7,.tup []),(8,.tup []),(9,.tup []),(10,.tup []),(11,.tup []),(12,.tup []),(13,.tup []),(14,.tup []),(15,.tup []),(16,.tup []),(17,.tup []),(18,.tup []),(19,.tup []),(20,.tup []),(21,.tup []),(22,.tup []),(23,.tup []),(24,.tup []),(25,.tup []),(26,.tup []),(27,.tup []),(28,.tup []),(29,.tup []),(30,.tup []),(31,.tup []),(32,.tup []),(33,.tup []),(34,.tup []),(35,.tup []),(36,.tup []),(37,.tup []),(38,.tup []),(39,.tup []),(40,.tup []),(41,.tup []),(42,.tup []),(43,.tup []),(44,.tup []),(45,.tup []),(46,.tup []),(47,.tup []),(48,.tup []),(49,.tup []),(50,.tup []),(51,.tup []),(52,.tup []),(53,.tup []),(54,.tup []),(55,.tup []),(56,.tup []),(57,.tup []),(58,.tup []),(59,.tup []),(60,.tup []),(61,.tup [])]) (S2:=⟨[(aF p_1),[i6 0,i6 0,i6 0,i6 0,i6 0,i6 0,i6 0,i6 0,i6 0,i6 0,i6 0,i6 0,i6 0,i6 0,.bool false,.bool false,.bool false,.bool false,.bool false,.bool false,.bool false,i6 0,i6 0,i6 0],(aJ z_9),[.bool b_10],[.fn 66 [] [.ptr 3 0,.ptr 2 0,.ptr 0 0,.ptr 4 0]]],[(0,0)]⟩) (by kernel_rfl) rfl ?_
         refine Ex.seq ?_
         refine regH 4 [(2,.eq (i6 ((r_34.1.jobs_.length : Nat) : Int)))] [0,1,2,10,11] [AV.int .i64 (((r_34.1.jobs_.map aI).length : Nat) : Int) = AV.int .i64 ((r_34.1.jobs_.length : Nat) : Int)] (mkS 62 [(0,.yld Lp_35.l 0),(1,.rop (aF r_34.1)),(2,.rop (aJ r_34.2)),(10,i6 ((r_34.1.jobs_.length : Nat) : Int)),(11,i6 0)]) (⟨[(aF p_1),[i6 0,i6 0,i6 0,i6 0,i6 0,i6 0,i6 0,i6 0,i6 0,i6 0,i6 0,i6 0,i6 0,i6 0,.bool false,.bool false,.bool false,.bool false,.bool false,.bool false,.bool false,i6 0,i6 0,i6 0],(aJ z_9),[.bool b_10],[.fn 66 [] [.ptr 3 0,.ptr 2 0,.ptr 0 0,.ptr 4 0]]],[(0,0)]⟩) (by kernel_rfl) ⟨lenM _ _,trivial⟩ rfl ?_
         obtain ⟨K_50,hK_51,h⟩:=letE h
         refine Ex.blockJ (fun a S => ∃ (z_47 : aL),∃ (b_48 : Bool),K_50 z_47 b_48 = some r ∧ a = mkS 62 [] ∧ S = ⟨[(aF p_1),[i6 0,i6 0,i6 0,i6 0,i6 0,i6 0,i6 0,i6 0,i6 0,i6 0,i6 0,i6 0,i6 0,i6 0,.bool false,.bool false,.bool false,.bool false,.bool false,.bool false,.bool false,i6 0,i6 0,i6 0],(aJ z_47),[.bool b_48],[.fn 66 [] [.ptr 3 0,.ptr 2 0,.ptr 0 0,.ptr 4 0]]],[(0,0)]⟩) ?_ ?_
         ·obtain ⟨B_56,hB_57,h⟩:=vN h
          refine Ex.loopF (fun k a S => ∃ (y_52 : Int),∃ (z_53 : aL),∃ (b_54 : Bool),loop3 B_56 k y_52 z_53 b_54 = some r ∧ a = mkS 62 [(0,.yld Lp_35.l 0),(1,.rop (aF r_34.1)),(2,.rop (aJ r_34.2)),(10,i6 ((r_34.1.jobs_.length : Nat) : Int)),(11,i6 y_52)] ∧ S = ⟨[(aF p_1),[i6 0,i6 0,i6 0,i6 0,i6 0,i6 0,i6 0,i6 0,i6 0,i6 0,i6 0,i6 0,i6 0,i6 0,.bool false,.bool false,.bool false,.bool false,.bool false,.bool false,.bool false,i6 0,i6 0,i6 0],(aJ z_53),[.bool b_54],[.fn 66 [] [.ptr 3 0,.ptr 2 0,.ptr 0 0,.ptr 4 0]]],[(0,0)]⟩) N ⟨_,_,aM.refl _ _ _,0,z_9,b_10,h,rfl,rfl⟩ ?_
          rintro k a S ⟨y_52,z_53,b_54,h,rfl,rfl⟩
          cases k with
          | zero => exact (vL h).elim
          | succ k =>
           replace h:=vM h hB_57
           refine Ex.seq (rg 1 [0,1,2,10,11,12] (mkS 62 [(0,.yld Lp_35.l 0),(1,.rop (aF r_34.1)),(2,.rop (aJ r_34.2)),(10,i6 ((r_34.1.jobs_.length : Nat) : Int)),(11,i6 y_52),(12,.bool (decide (y_52 < ((r_34.1.jobs_.length : Nat) : Int))))]) ⟨[(aF p_1),[i6 0,i6 0,i6 0,i6 0,i6 0,i6 0,i6 0,i6 0,i6 0,i6 0,i6 0,i6 0,i6 0,i6 0,.bool false,.bool false,.bool false,.bool false,.bool false,.bool false,.bool false,i6 0,i6 0,i6 0],(aJ z_53),[.bool b_54],[.fn 66 [] [.ptr 3 0,.ptr 2 0,.ptr 0 0,.ptr 4 0]]],[(0,0)]⟩ ?_)
           refine Ex.seq ?_
           rcases aY h with ⟨hc_58,h⟩ | ⟨hc_58,h⟩
           ·refine Ex.condT _ rfl hc_58 ?_
            refine Ex.skip ?_
            refine Ex.seq ?_
            obtain ⟨K_62,hK_63,h⟩:=letE h
            refine Ex.blockJ (fun a S => ∃ (z_59 : aL),∃ (b_60 : Bool),K_62 z_59 b_60 = some r ∧ a = mkS 62 [(0,.yld Lp_35.l 0),(1,.rop (aF r_34.1)),(2,.rop (aJ r_34.2)),(10,i6 ((r_34.1.jobs_.length : Nat) : Int)),(11,i6 y_52)] ∧ S = ⟨[(aF p_1),[i6 0,i6 0,i6 0,i6 0,i6 0,i6 0,i6 0,i6 0,i6 0,i6 0,i6 0,i6 0,i6 0,i6 0,.bool false,.bool false,.bool false,.bool false,.bool false,.bool false,.bool false,i6 0,i6 0,i6 0],(aJ z_59),[.bool b_60],[.fn 66 [] [.ptr 3 0,.ptr 2 0,.ptr 0 0,.ptr 4 0]]],[(0,0)]⟩) ?_ ?_
            ·refine Ex.seq (rg 2 [0,1,2,4,10,11] (mkS 62 [(0,.yld Lp_35.l 0),(1,.rop (aF r_34.1)),(2,.rop (aJ r_34.2)),(4,i6 y_52),(10,i6 ((r_34.1.jobs_.length : Nat) : Int)),(11,i6 y_52)]) ⟨[(aF p_1),[i6 0,i6 0,i6 0,i6 0,i6 0,i6 0,i6 0,i6 0,i6 0,i6 0,i6 0,i6 0,i6 0,i6 0,.bool false,.bool false,.bool false,.bool false,.bool false,.bool false,.bool false,i6 0,i6 0,i6 0],(aJ z_53),[.bool b_54],[.fn 66 [] [.ptr 3 0,.ptr 2 0,.ptr 0 0,.ptr 4 0]]],[(0,0)]⟩ ?_)
             refine Ex.seq ?_
             obtain ⟨K_66,hK_67,h⟩:=letE h
             refine Ex.seqJ (fun a S => ∃ (y_64 : Bool),K_66 y_64 = some r ∧ a = mkS 62 [(0,.yld Lp_35.l 0),(1,.rop (aF r_34.1)),(2,.rop (aJ r_34.2)),(4,i6 y_52),(10,i6 ((r_34.1.jobs_.length : Nat) : Int)),(11,i6 y_52),(23,.bool y_64)] ∧ S = ⟨[(aF p_1),[i6 0,i6 0,i6 0,i6 0,i6 0,i6 0,i6 0,i6 0,i6 0,i6 0,i6 0,i6 0,i6 0,i6 0,.bool false,.bool false,.bool false,.bool false,.bool false,.bool false,.bool false,i6 0,i6 0,i6 0],(aJ z_53),[.bool b_54],[.fn 66 [] [.ptr 3 0,.ptr 2 0,.ptr 0 0,.ptr 4 0]]],[(0,0)]⟩) ?_ ?_
             ·obtain ⟨x_68,hx_68,h⟩:=bE h
              rcases aY h with ⟨hc_69,h⟩ | ⟨hc_69,h⟩
              ·refine regH 10 [(2, .rop [.bool x_68]), (4, .eq (.bool true))] [0, 1, 2, 4, 10, 11, 23] [(0 ≤ y_52 ∧ y_52 < ((7 : Nat) : Int) ∧ Int.toNat y_52 * 1 ≤ ([.bool r_34.2.planned_.a0, .bool r_34.2.planned_.a1, .bool r_34.2.planned_.a2, .bool r_34.2.planned_.a3, .bool r_34.2.planned_.a4, .bool r_34.2.planned_.a5, .bool r_34.2.planned_.a6, i6 r_34.2.many_, i6 r_34.2.last_, i6 r_34.2.days_] : List AV).length) ∧ (([.bool r_34.2.planned_.a0, .bool r_34.2.planned_.a1, .bool r_34.2.planned_.a2, .bool r_34.2.planned_.a3, .bool r_34.2.planned_.a4, .bool r_34.2.planned_.a5, .bool r_34.2.planned_.a6, i6 r_34.2.many_, i6 r_34.2.last_, i6 r_34.2.days_] : List AV).drop (Int.toNat y_52 * 1)).take 1 = [.bool x_68], AV.bool x_68 = AV.bool true] (mkS 62 [(0, .yld Lp_35.l 0), (1, .rop (aF r_34.1)), (2, .rop (aJ r_34.2)), (4, i6 y_52), (10, i6 ((r_34.1.jobs_.length : Nat) : Int)), (11, i6 y_52), (23, .bool true)]) (⟨[(aF p_1), [i6 0, i6 0, i6 0, i6 0, i6 0, i6 0, i6 0, i6 0, i6 0, i6 0, i6 0, i6 0, i6 0, i6 0, .bool false, .bool false, .bool false, .bool false, .bool false, .bool false, .bool false, i6 0, i6 0, i6 0], (aJ z_53), [.bool b_54], [.fn 66 [] [.ptr 3 0, .ptr 2 0, .ptr 0 0, .ptr 4 0]]], [(0, 0)]⟩) (by kernel_rfl) ⟨aDe (f := AV.bool) r_34.2.planned_.l [.bool r_34.2.planned_.a0, .bool r_34.2.planned_.a1, .bool r_34.2.planned_.a2, .bool r_34.2.planned_.a3, .bool r_34.2.planned_.a4, .bool r_34.2.planned_.a5, .bool r_34.2.planned_.a6, i6 r_34.2.many_, i6 r_34.2.last_, i6 r_34.2.days_] 7 (fun _ => rfl) (by kernel_rfl) rfl hx_68 (by simp), congrArg AV.bool hc_69, trivial⟩ rfl ?_
               (try simp only [reduceCtorEq,AEx.ex.injEq,Nat.reduceEqDiff,if_true,if_false])
               exact ⟨_,_,aM.refl _ _ _,true,h,rfl,rfl⟩
              ·obtain ⟨r_70,hr_70,h⟩:=bE h
               refine Ex.reg ?_
               refine runH 8 [(2,.rop [.bool x_68]),(4,.eq (.bool false))] [0,1,2,4,10,11,18,19,20,21] [(0 ≤ y_52 ∧ y_52 < ((7 : Nat) : Int) ∧ Int.toNat y_52 * 1 ≤ ([.bool r_34.2.planned_.a0,.bool r_34.2.planned_.a1,.bool r_34.2.planned_.a2,.bool r_34.2.planned_.a3,.bool r_34.2.planned_.a4,.bool r_34.2.planned_.a5,.bool r_34.2.planned_.a6,i6 r_34.2.many_,i6 r_34.2.last_,i6 r_34.2.days_] : List AV).length) ∧ (([.bool r_34.2.planned_.a0,.bool r_34.2.planned_.a1,.bool r_34.2.planned_.a2,.bool r_34.2.planned_.a3,.bool r_34.2.planned_.a4,.bool r_34.2.planned_.a5,.bool r_34.2.planned_.a6,i6 r_34.2.many_,i6 r_34.2.last_,i6 r_34.2.days_] : List AV).drop (Int.toNat y_52 * 1)).take 1 = [.bool x_68],AV.bool x_68 = AV.bool false] (mkS 62 [(0,.yld Lp_35.l 0),(1,.rop (aF r_34.1)),(2,.rop (aJ r_34.2)),(4,i6 y_52),(10,i6 ((r_34.1.jobs_.length : Nat) : Int)),(11,i6 y_52),(18,.bool false),(19,(aQ r_34.1)),(20,(aO r_34.2)),(21,i6 y_52)]) (⟨[(aF p_1),[i6 0,i6 0,i6 0,i6 0,i6 0,i6 0,i6 0,i6 0,i6 0,i6 0,i6 0,i6 0,i6 0,i6 0,.bool false,.bool false,.bool false,.bool false,.bool false,.bool false,.bool false,i6 0,i6 0,i6 0],(aJ z_53),[.bool b_54],[.fn 66 [] [.ptr 3 0,.ptr 2 0,.ptr 0 0,.ptr 4 0]]],[(0,0)]⟩) (by kernel_rfl) ⟨aDe (f:=AV.bool) r_34.2.planned_.l [.bool r_34.2.planned_.a0,.bool r_34.2.planned_.a1,.bool r_34.2.planned_.a2,.bool r_34.2.planned_.a3,.bool r_34.2.planned_.a4,.bool r_34.2.planned_.a5,.bool r_34.2.planned_.a6,i6 r_34.2.many_,i6 r_34.2.last_,i6 r_34.2.days_] 7 (fun _ => rfl) (by kernel_rfl) rfl hx_68 (by simp),congrArg AV.bool hc_69,trivial⟩ ?_
               refine ExO.callL [] [(aQ r_34.1),(aO r_34.2),i6 y_52] rfl rfl (rJ r_34.1 r_34.2 y_52) rfl rfl (qY N r_34.1 r_34.2 y_52 r_70 hr_70) (rE _ _ _ _) rfl ?_
               refine rn 1 [0,1,2,4,10,11,23] (mkS 62 [(0,.yld Lp_35.l 0),(1,.rop (aF r_34.1)),(2,.rop (aJ r_34.2)),(4,i6 y_52),(10,i6 ((r_34.1.jobs_.length : Nat) : Int)),(11,i6 y_52),(23,.bool r_70)]) ⟨[(aF p_1),[i6 0,i6 0,i6 0,i6 0,i6 0,i6 0,i6 0,i6 0,i6 0,i6 0,i6 0,i6 0,i6 0,i6 0,.bool false,.bool false,.bool false,.bool false,.bool false,.bool false,.bool false,i6 0,i6 0,i6 0],(aJ z_53),[.bool b_54],[.fn 66 [] [.ptr 3 0,.ptr 2 0,.ptr 0 0,.ptr 4 0]]],[(0,0)]⟩ ?_
               refine ExO.nil ?_
               (try simp only [reduceCtorEq,AEx.ex.injEq,Nat.reduceEqDiff,if_true,if_false])
               exact ⟨_,_,aM.refl _ _ _,r_70,h,rfl,rfl⟩
             ·rintro a S ⟨y_64,h,rfl,rfl⟩
              subst hK_67
              rcases aY h with ⟨hc_71,h⟩ | ⟨hc_71,h⟩
              ·refine Ex.condT _ rfl hc_71 ?_
               refine Ex.exit ?_
               (try simp only [reduceCtorEq,AEx.ex.injEq,Nat.reduceEqDiff,if_true,if_false])
               exact ⟨_,_,bQ [0,1,2,10,11],z_53,b_54,h,rfl,rfl⟩
              ·refine Ex.condF _ rfl hc_71 ?_
               refine Ex.skip ?_
               refine Ex.seq ?_
               obtain ⟨x_72,hx_72,h⟩:=bE h
               refine regH 7 [(3,.rop [.sl (x_72.map (AV.int .i64)) none]),(5,.eq (i6 ((x_72.length : Nat) : Int)))] [0,1,2,4,10,11,28,29,30] [LGet (r_34.1.able_.map (SV (AV.int .i64))) y_52 1 [.sl (x_72.map (AV.int .i64)) none],AV.int .i64 (((x_72.map (AV.int .i64)).length : Nat) : Int) = AV.int .i64 ((x_72.length : Nat) : Int)] (mkS 62 [(0,.yld Lp_35.l 0),(1,.rop (aF r_34.1)),(2,.rop (aJ r_34.2)),(4,i6 y_52),(10,i6 ((r_34.1.jobs_.length : Nat) : Int)),(11,i6 y_52),(28,.sl (x_72.map (AV.int .i64)) none),(29,i6 ((x_72.length : Nat) : Int)),(30,i6 0)]) (⟨[(aF p_1),[i6 0,i6 0,i6 0,i6 0,i6 0,i6 0,i6 0,i6 0,i6 0,i6 0,i6 0,i6 0,i6 0,i6 0,.bool false,.bool false,.bool false,.bool false,.bool false,.bool false,.bool false,i6 0,i6 0,i6 0],(aJ z_53),[.bool b_54],[.fn 66 [] [.ptr 3 0,.ptr 2 0,.ptr 0 0,.ptr 4 0]]],[(0,0)]⟩) (by kernel_rfl) ⟨LGet.of hx_72 rfl,lenM _ _,trivial⟩ rfl ?_
               obtain ⟨K_76,hK_77,h⟩:=letE h
               refine Ex.blockJ (fun a S => ∃ (z_73 : aL),∃ (b_74 : Bool),K_76 z_73 b_74 = some r ∧ a = mkS 62 [(0,.yld Lp_35.l 0),(1,.rop (aF r_34.1)),(2,.rop (aJ r_34.2)),(10,i6 ((r_34.1.jobs_.length : Nat) : Int)),(11,i6 y_52)] ∧ S = ⟨[(aF p_1),[i6 0,i6 0,i6 0,i6 0,i6 0,i6 0,i6 0,i6 0,i6 0,i6 0,i6 0,i6 0,i6 0,i6 0,.bool false,.bool false,.bool false,.bool false,.bool false,.bool false,.bool false,i6 0,i6 0,i6 0],(aJ z_73),[.bool b_74],[.fn 66 [] [.ptr 3 0,.ptr 2 0,.ptr 0 0,.ptr 4 0]]],[(0,0)]⟩) ?_ ?_
               ·obtain ⟨B_82,hB_83,h⟩:=vN h
                refine Ex.loopF (fun k a S => ∃ (y_78 : Int),∃ (z_79 : aL),∃ (b_80 : Bool),loop3 B_82 k y_78 z_79 b_80 = some r ∧ a = mkS 62 [(0,.yld Lp_35.l 0),(1,.rop (aF r_34.1)),(2,.rop (aJ r_34.2)),(4,i6 y_52),(10,i6 ((r_34.1.jobs_.length : Nat) : Int)),(11,i6 y_52),(28,.sl (x_72.map (AV.int .i64)) none),(29,i6 ((x_72.length : Nat) : Int)),(30,i6 y_78)] ∧ S = ⟨[(aF p_1),[i6 0,i6 0,i6 0,i6 0,i6 0,i6 0,i6 0,i6 0,i6 0,i6 0,i6 0,i6 0,i6 0,i6 0,.bool false,.bool false,.bool false,.bool false,.bool false,.bool false,.bool false,i6 0,i6 0,i6 0],(aJ z_79),[.bool b_80],[.fn 66 [] [.ptr 3 0,.ptr 2 0,.ptr 0 0,.ptr 4 0]]],[(0,0)]⟩) N ⟨_,_,aM.refl _ _ _,0,z_53,b_54,h,rfl,rfl⟩ ?_
                rintro k a S ⟨y_78,z_79,b_80,h,rfl,rfl⟩
                cases k with
                | zero => exact (vL h).elim
                | succ k =>
                 replace h:=vM h hB_83
                 refine Ex.seq (rg 1 [0,1,2,4,10,11,28,29,30,31] (mkS 62 [(0,.yld Lp_35.l 0),(1,.rop (aF r_34.1)),(2,.rop (aJ r_34.2)),(4,i6 y_52),(10,i6 ((r_34.1.jobs_.length : Nat) : Int)),(11,i6 y_52),(28,.sl (x_72.map (AV.int .i64)) none),(29,i6 ((x_72.length : Nat) : Int)),(30,i6 y_78),(31,.bool (decide (y_78 < ((x_72.length : Nat) : Int))))]) ⟨[(aF p_1),[i6 0,i6 0,i6 0,i6 0,i6 0,i6 0,i6 0,i6 0,i6 0,i6 0,i6 0,i6 0,i6 0,i6 0,.bool false,.bool false,.bool false,.bool false,.bool false,.bool false,.bool false,i6 0,i6 0,i6 0],(aJ z_79),[.bool b_80],[.fn 66 [] [.ptr 3 0,.ptr 2 0,.ptr 0 0,.ptr 4 0]]],[(0,0)]⟩ ?_)
                 refine Ex.seq ?_
                 rcases aY h with ⟨hc_84,h⟩ | ⟨hc_84,h⟩
                 ·refine Ex.condT _ rfl hc_84 ?_
                  refine Ex.skip ?_
                  refine Ex.seq ?_
                  obtain ⟨K_88,hK_89,h⟩:=letE h
                  refine Ex.blockJ (fun a S => ∃ (z_85 : aL),∃ (b_86 : Bool),K_88 z_85 b_86 = some r ∧ a = mkS 62 [(0,.yld Lp_35.l 0),(1,.rop (aF r_34.1)),(2,.rop (aJ r_34.2)),(4,i6 y_52),(10,i6 ((r_34.1.jobs_.length : Nat) : Int)),(11,i6 y_52),(28,.sl (x_72.map (AV.int .i64)) none),(29,i6 ((x_72.length : Nat) : Int)),(30,i6 y_78)] ∧ S = ⟨[(aF p_1),[i6 0,i6 0,i6 0,i6 0,i6 0,i6 0,i6 0,i6 0,i6 0,i6 0,i6 0,i6 0,i6 0,i6 0,.bool false,.bool false,.bool false,.bool false,.bool false,.bool false,.bool false,i6 0,i6 0,i6 0],(aJ z_85),[.bool b_86],[.fn 66 [] [.ptr 3 0,.ptr 2 0,.ptr 0 0,.ptr 4 0]]],[(0,0)]⟩) ?_ ?_
                  ·refine Ex.seq ?_
                   obtain ⟨x_90,hx_90,h⟩:=bE h
                   refine regH 3 [(0,.rop [i6 x_90])] [0,1,2,4,6,10,11,28,29,30] [LGet (x_72.map (AV.int .i64)) y_78 1 [i6 x_90]] (mkS 62 [(0,.yld Lp_35.l 0),(1,.rop (aF r_34.1)),(2,.rop (aJ r_34.2)),(4,i6 y_52),(6,i6 x_90),(10,i6 ((r_34.1.jobs_.length : Nat) : Int)),(11,i6 y_52),(28,.sl (x_72.map (AV.int .i64)) none),(29,i6 ((x_72.length : Nat) : Int)),(30,i6 y_78)]) (⟨[(aF p_1),[i6 0,i6 0,i6 0,i6 0,i6 0,i6 0,i6 0,i6 0,i6 0,i6 0,i6 0,i6 0,i6 0,i6 0,.bool false,.bool false,.bool false,.bool false,.bool false,.bool false,.bool false,i6 0,i6 0,i6 0],(aJ z_79),[.bool b_80],[.fn 66 [] [.ptr 3 0,.ptr 2 0,.ptr 0 0,.ptr 4 0]]],[(0,0)]⟩) (by kernel_rfl) ⟨LGet.of hx_90 rfl,trivial⟩ rfl ?_
                   refine Ex.seq ?_
                   obtain ⟨r_91,hr_91,h⟩:=bE h
                   have hT_92 : fH Tryz.prog [⟨82,[(aQ r_34.1),(aO r_34.2),i6 y_52],[],(cH r_91),[]⟩] ∧ eF [⟨82,[(aQ r_34.1),(aO r_34.2),i6 y_52],[],(cH r_91),[]⟩]:=⟨⟨(rA N r_34.1 r_34.2 y_52 r_91 hr_91),rfl,trivial⟩,⟨trivial,trivial⟩⟩
                   refine Ex.drawE (a1:=mkS 62 [(0,.yld Lp_35.l 0),(1,.rop (aF r_34.1)),(2,.rop (aJ r_34.2)),(4,i6 y_52),(6,i6 x_90),(10,i6 ((r_34.1.jobs_.length : Nat) : Int)),(11,i6 y_52),(28,.sl (x_72.map (AV.int .i64)) none),(29,i6 ((x_72.length : Nat) : Int)),(30,i6 y_78),(34,(aQ r_34.1)),(35,(aO r_34.2)),(36,i6 y_52),(37,i6 r_91),(38,(aQ r_34.1)),(39,(aO r_34.2)),(40,i6 x_90)]) (dI hT_92.1) [] [] [] ?_ ?_
                   ·refine drS [0, 1, 2, 3, 4] 3 [] [] (mkS 62 [(0, .yld Lp_35.l 0), (1, .rop (aF r_34.1)), (2, .rop (aJ r_34.2)), (4, i6 y_52), (6, i6 x_90), (10, i6 ((r_34.1.jobs_.length : Nat) : Int)), (11, i6 y_52), (28, .sl (x_72.map (AV.int .i64)) none), (29, i6 ((x_72.length : Nat) : Int)), (30, i6 y_78), (34, (aQ r_34.1)), (35, (aO r_34.2)), (36, i6 y_52)]) (by simp) (by kernel_rfl) trivial (by kernel_rfl) ?_
                    refine drC hT_92.2 0 _ [(aQ r_34.1),(aO r_34.2),i6 y_52] (cH r_91) rfl rfl rfl rfl rfl (fun _ => rfl) rfl (by simp; try rfl) (fun _ => rG _ _ _ _) ?_
                    refine drS [0,1,2,3,4] 3 [] [] (mkS 62 [(0,.yld Lp_35.l 0),(1,.rop (aF r_34.1)),(2,.rop (aJ r_34.2)),(4,i6 y_52),(6,i6 x_90),(10,i6 ((r_34.1.jobs_.length : Nat) : Int)),(11,i6 y_52),(28,.sl (x_72.map (AV.int .i64)) none),(29,i6 ((x_72.length : Nat) : Int)),(30,i6 y_78),(34,(aQ r_34.1)),(35,(aO r_34.2)),(36,i6 y_52),(37,i6 r_91),(38,(aQ r_34.1)),(39,(aO r_34.2)),(40,i6 x_90)]) (by simp) (by kernel_rfl) trivial (by kernel_rfl) ?_
                    exact DrO.nil rfl
                   ·dsimp only [List.getLastD_cons,List.getLastD_nil]
                    obtain ⟨r_93,hr_93,h⟩:=bE h
                    refine ExO.callL [] [(aQ r_34.1),(aO r_34.2),i6 x_90] rfl rfl (sQ r_34.1 r_34.2 x_90) rfl rfl (sF N r_34.1 r_34.2 x_90 r_93 hr_93) (sL _ _ _ _) rfl ?_
                    refine rn 2 [0,1,2,4,6,7,10,11,28,29,30] (mkS 62 [(0,.yld Lp_35.l 0),(1,.rop (aF r_34.1)),(2,.rop (aJ r_34.2)),(4,i6 y_52),(6,i6 x_90),(7,i6 (if r_93 > r_91 then r_93 else r_91)),(10,i6 ((r_34.1.jobs_.length : Nat) : Int)),(11,i6 y_52),(28,.sl (x_72.map (AV.int .i64)) none),(29,i6 ((x_72.length : Nat) : Int)),(30,i6 y_78)]) ⟨[(aF p_1),[i6 0,i6 0,i6 0,i6 0,i6 0,i6 0,i6 0,i6 0,i6 0,i6 0,i6 0,i6 0,i6 0,i6 0,.bool false,.bool false,.bool false,.bool false,.bool false,.bool false,.bool false,i6 0,i6 0,i6 0],(aJ z_79),[.bool b_80],[.fn 66 [] [.ptr 3 0,.ptr 2 0,.ptr 0 0,.ptr 4 0]]],[(0,0)]⟩ ?_
                    refine ExO.nil ?_
                    refine Ex.seq (Ex.seq ?_)
                    obtain ⟨x_94,hx_94,h⟩:=bE h
                    refine regH 7 [(3,.rop (aN x_94))] [0,1,2,4,6,7,10,11,28,29,30,49] [(0 ≤ y_52 ∧ y_52 < ((7 : Nat) : Int) ∧ Int.toNat y_52 * 2 ≤ ((aJ r_34.2) : List AV).length) ∧ (((aJ r_34.2) : List AV).drop (Int.toNat y_52 * 2)).take 2 = (aN x_94)] (mkS 62 [(0,.yld Lp_35.l 0),(1,.rop (aF r_34.1)),(2,.rop (aJ r_34.2)),(4,i6 y_52),(6,i6 x_90),(7,i6 (if r_93 > r_91 then r_93 else r_91)),(10,i6 ((r_34.1.jobs_.length : Nat) : Int)),(11,i6 y_52),(28,.sl (x_72.map (AV.int .i64)) none),(29,i6 ((x_72.length : Nat) : Int)),(30,i6 y_78),(49,.bool (decide ((if r_93 > r_91 then r_93 else r_91) < x_94.Day)))]) (⟨[(aF p_1),[i6 0,i6 0,i6 0,i6 0,i6 0,i6 0,i6 0,i6 0,i6 0,i6 0,i6 0,i6 0,i6 0,i6 0,.bool false,.bool false,.bool false,.bool false,.bool false,.bool false,.bool false,i6 0,i6 0,i6 0],(aJ z_79),[.bool b_80],[.fn 66 [] [.ptr 3 0,.ptr 2 0,.ptr 0 0,.ptr 4 0]]],[(0,0)]⟩) (by kernel_rfl) ⟨aDe (f:=aA) r_34.2.shifts_.l (aJ r_34.2) 7 (fun _ => rfl) (by kernel_rfl) rfl hx_94 (by simp),trivial⟩ rfl ?_
                    rcases aY h with ⟨hc_95,h⟩ | ⟨hc_95,h⟩
                    ·refine Ex.condT _ rfl hc_95 ?_
                     refine Ex.exit ?_
                     (try simp only [reduceCtorEq,AEx.ex.injEq,Nat.reduceEqDiff,if_true,if_false])
                     exact ⟨_,_,bQ [0,1,2,4,10,11,28,29,30],z_79,b_80,h,rfl,rfl⟩
                    ·refine Ex.condF _ rfl hc_95 ?_
                     refine Ex.skip ?_
                     refine Ex.seq ?_
                     obtain ⟨r_96,hr_96,h⟩:=bE h
                     refine Ex.regI ?_
                     refine runI 7 [] [0,1,2,4,10,11,28,29,30,50,51,52,53,56] [] (mkS 62 [(0,.yld Lp_35.l 0),(1,.rop (aF r_34.1)),(2,.rop (aJ r_34.2)),(4,i6 y_52),(10,i6 ((r_34.1.jobs_.length : Nat) : Int)),(11,i6 y_52),(28,.sl (x_72.map (AV.int .i64)) none),(29,i6 ((x_72.length : Nat) : Int)),(30,i6 y_78),(50,.yld Lp_35.l 0),(51,(aQ r_34.1)),(52,(aO r_34.2)),(53,i6 y_52),(56,.agg [i6 x_90,i6 (if r_93 > r_91 then r_93 else r_91)])]) (⟨[(aF p_1),[i6 0,i6 0,i6 0,i6 0,i6 0,i6 0,i6 0,i6 0,i6 0,i6 0,i6 0,i6 0,i6 0,i6 0,.bool false,.bool false,.bool false,.bool false,.bool false,.bool false,.bool false,i6 0,i6 0,i6 0],(aJ z_79),[.bool b_80],[.fn 66 [] [.ptr 3 0,.ptr 2 0,.ptr 0 0,.ptr 4 0]]],[(0,0)]⟩) (by kernel_rfl) trivial ?_
                     refine ExI.one ?_
                     refine ExO.callL [] [(aQ r_34.1),(aO r_34.2),i6 y_52,.agg [i6 x_90,i6 (if r_93 > r_91 then r_93 else r_91)]] rfl rfl (sP r_34.1 r_34.2 y_52 (⟨x_90,(if r_93 > r_91 then r_93 else r_91)⟩ : aG)) rfl rfl (sE N r_34.1 r_34.2 y_52 (⟨x_90,(if r_93 > r_91 then r_93 else r_91)⟩ : aG) r_96 hr_96) (sK _ _ _ _) rfl ?_
                     refine ExO.nil ?_
                     obtain ⟨K_108,hK_109,h⟩:=letE h
                     refine ExI.yieldT 0 hLt_39 hL_40 [(aO r_96)] rfl rfl rfl (by kernel_rfl) rfl rfl (leC hcn_37 (by simp [bD])) ?_
                     intro ca_97 cb_98 ha_99 hb_100 hma_101 hmb_102 hup_103 hbz_104
                     refine Ex.castA (a2:=mkS 30 [(4,.ptr 4 0),(9,.fn 80 [] [.rop (aF r_34.1),.rop (aJ r_34.2)]),(10,(aO r_96))]) (S2:=⟨[(aF p_1),[i6 0,i6 0,i6 0,i6 0,i6 0,i6 0,i6 0,i6 0,i6 0,i6 0,i6 0,i6 0,i6 0,i6 0,.bool false,.bool false,.bool false,.bool false,.bool false,.bool false,.bool false,i6 0,i6 0,i6 0],(aJ z_79),[.bool b_80],[.fn 66 [] [.ptr 3 0,.ptr 2 0,.ptr 0 0,.ptr 4 0]]],[(0,0)]⟩) (by kernel_rfl) (by kernel_rfl) ?_
                     refine Ex.two (fun z S => (z = AEx.norm ∧ ∃ (z_105 : aL),∃ (b_106 : Bool),K_108 z_105 b_106 = some r ∧ S = ⟨[(aF p_1),[i6 0,i6 0,i6 0,i6 0,i6 0,i6 0,i6 0,i6 0,i6 0,i6 0,i6 0,i6 0,i6 0,i6 0,.bool false,.bool false,.bool false,.bool false,.bool false,.bool false,.bool false,i6 0,i6 0,i6 0],(aJ z_105),[.bool b_106],[.fn 66 [] [.ptr 3 0,.ptr 2 0,.ptr 0 0,.ptr 4 0]]],[(0,0)]⟩)) ?_ ?_
                     ·refine rg 2 [4,6] (mkS 30 [(4,.ptr 4 0),(6,.ptr 5 0)]) ⟨[(aF p_1),[i6 0,i6 0,i6 0,i6 0,i6 0,i6 0,i6 0,i6 0,i6 0,i6 0,i6 0,i6 0,i6 0,i6 0,.bool false,.bool false,.bool false,.bool false,.bool false,.bool false,.bool false,i6 0,i6 0,i6 0],(aJ z_79),[.bool b_80],[.fn 66 [] [.ptr 3 0,.ptr 2 0,.ptr 0 0,.ptr 4 0]],(aJ r_96)],[(0,0)]⟩ ?_
                      refine ⟨rfl,rfl,?_⟩
                      refine Ex.blockK ?_
                      refine Ex.reg (rn 2 [11,12] (mkS 30 [(11,.fn 66 [] [.ptr 3 0,.ptr 2 0,.ptr 0 0,.ptr 4 0]),(12,(aO r_96))]) ⟨[(aF p_1),[i6 0,i6 0,i6 0,i6 0,i6 0,i6 0,i6 0,i6 0,i6 0,i6 0,i6 0,i6 0,i6 0,i6 0,.bool false,.bool false,.bool false,.bool false,.bool false,.bool false,.bool false,i6 0,i6 0,i6 0],(aJ z_79),[.bool b_80],[.fn 66 [] [.ptr 3 0,.ptr 2 0,.ptr 0 0,.ptr 4 0]],(aJ r_96)],[(0,0)]⟩ ?_)
                      obtain ⟨K_115,hK_116,h⟩:=letE h
                      obtain ⟨s_110,hs_111,h⟩:=bE h
                      refine ExO.forget (bM (m:=30) 5 [0] [(11,.fn 66 [] [.ptr 3 0,.ptr 2 0,.ptr 0 0,.ptr 4 0]),(12,(aO r_96))] [(aF p_1),[i6 0,i6 0,i6 0,i6 0,i6 0,i6 0,i6 0,i6 0,i6 0,i6 0,i6 0,i6 0,i6 0,i6 0,.bool false,.bool false,.bool false,.bool false,.bool false,.bool false,.bool false,i6 0,i6 0,i6 0],(aJ z_79),[.bool b_80],[.fn 66 [] [.ptr 3 0,.ptr 2 0,.ptr 0 0,.ptr 4 0]]] [(0,0)] (leC hb_100 (by simp [bD])) (by simp) ⟨(by show re 5 [0] (.fn 66 [] [.ptr 3 0,.ptr 2 0,.ptr 0 0,.ptr 4 0]) = some (.fn 66 [] [.ptr 3 0,.ptr 2 0,.ptr 0 0,.ptr 4 0]); simp [re,re1,AV.clean,List.idxOf?,List.findIdx?,List.findIdx?.go,bB,fX,dS,gB,fR,dB,dC,fE,dN,cF,cJ,eV,fY,dK,cZ,cT,aK,aE,aU,aI,aW,aC,aB,aA,aN,bO,bP,eH,dP,fL,eG,aO,aJ,aQ,aF]),(by show re 5 [0] ((aO r_96)) = some ((aO r_96)); simp [re,re1,AV.clean,List.idxOf?,List.findIdx?,List.findIdx?.go,bB,fX,dS,gB,fR,dB,dC,fE,dN,cF,cJ,eV,fY,dK,cZ,cT,aK,aE,aU,aI,aW,aC,aB,aA,aN,bO,bP,eH,dP,fL,eG,aO,aJ,aQ,aF]),trivial⟩ (by simp) rfl (by decide) (sig0 1 hmb_102 rfl)) ?_
                      refine ExO.castA (a2:=mkS 30 [(11,.fn 66 [] [.ptr 3 0,.ptr 2 0,.ptr 0 0,.ptr 4 0]),(12,(aO r_96))]) (S2:=⟨[(aF p_1),[i6 0,i6 0,i6 0,i6 0,i6 0,i6 0,i6 0,i6 0,i6 0,i6 0,i6 0,i6 0,i6 0,i6 0,.bool false,.bool false,.bool false,.bool false,.bool false,.bool false,.bool false,i6 0,i6 0,i6 0],(aJ z_79),[.bool b_80],[.fn 66 [] [.ptr 3 0,.ptr 2 0,.ptr 0 0,.ptr 4 0]]],[(0,0)]⟩) (by kernel_rfl) (by kernel_rfl) ?_
                      refine ExO.inlZ (fun v S => (∃ (z_112 : aL),∃ (b_113 : Bool),(z_112,b_113) = s_110 ∧ v = .tup [] ∧ S = ⟨[(aF p_1),[i6 0,i6 0,i6 0,i6 0,i6 0,i6 0,i6 0,i6 0,i6 0,i6 0,i6 0,i6 0,i6 0,i6 0,.bool false,.bool false,.bool false,.bool false,.bool false,.bool false,.bool false,i6 0,i6 0,i6 0],(aJ z_112),[.bool b_113],[.fn 66 [] [.ptr 3 0,.ptr 2 0,.ptr 0 0,.ptr 4 0]]],[]⟩)) 66 [(aO r_96),.ptr 3 0,.ptr 2 0,.ptr 0 0,.ptr 4 0] _ comp66 (leC hb_100 (by simp [bD])) rfl hbz_104 hLt_39 rfl (by kernel_rfl) (mkS 30 [(0,(aO r_96)),(1,.ptr 3 0),(2,.ptr 2 0),(3,.ptr 0 0),(4,.ptr 4 0),(5,.tup []),(6,.tup []),(7,.tup []),(8,.tup []),(9,.tup []),(10,.tup []),(11,.tup []),(12,.tup []),(13,.tup []),(14,.tup []),(15,.tup []),(16,.tup []),(17,.tup []),(18,.tup []),(19,.tup []),(20,.tup []),(21,.tup []),(22,.tup []),(23,.tup []),(24,.tup []),(25,.tup []),(26,.tup []),(27,.tup []),(28,.tup []),(29,.tup [])]) (by kernel_rfl) (fun c1 g1 g2 g3 => ih_17 r_96 z_79 b_80 _ hs_111 c1 g1 g2 (fun _ _ _ _ _ hq => (noLp hq).elim)) (by rintro v S (⟨_,_,_,_,rfl⟩) <;> rfl) ?_
                      rintro v S (⟨z_112,b_113,rfl,rfl,rfl⟩)
                      replace h : K_115 z_112 b_113 = some r:=h
                      subst hK_116
                      refine rn 0 [] (mkS 30 []) ⟨[(aF p_1),[i6 0,i6 0,i6 0,i6 0,i6 0,i6 0,i6 0,i6 0,i6 0,i6 0,i6 0,i6 0,i6 0,i6 0,.bool false,.bool false,.bool false,.bool false,.bool false,.bool false,.bool false,i6 0,i6 0,i6 0],(aJ z_112),[.bool b_113],[.fn 66 [] [.ptr 3 0,.ptr 2 0,.ptr 0 0,.ptr 4 0]]],[(0,0)]⟩ ?_
                      refine ExO.nil ?_
                      (try simp only [reduceCtorEq,AEx.ex.injEq,Nat.reduceEqDiff,if_true,if_false])
                      exact ⟨_,_,aM.refl _ _ _,⟨by first | rfl | trivial,z_112,b_113,h,rfl⟩⟩
                     ·rintro z a2 S (⟨rfl,z_105,b_106,h,rfl⟩)
                      subst hK_109
                      refine runI 1 [] [0,1,2,4,10,11,28,29,30,59] [] (mkS 62 [(0,.yld Lp_35.l 0),(1,.rop (aF r_34.1)),(2,.rop (aJ r_34.2)),(4,i6 y_52),(10,i6 ((r_34.1.jobs_.length : Nat) : Int)),(11,i6 y_52),(28,.sl (x_72.map (AV.int .i64)) none),(29,i6 ((x_72.length : Nat) : Int)),(30,i6 y_78),(59,.bool false)]) (⟨[(aF p_1),[i6 0,i6 0,i6 0,i6 0,i6 0,i6 0,i6 0,i6 0,i6 0,i6 0,i6 0,i6 0,i6 0,i6 0,.bool false,.bool false,.bool false,.bool false,.bool false,.bool false,.bool false,i6 0,i6 0,i6 0],(aJ z_105),[.bool b_106],[.fn 66 [] [.ptr 3 0,.ptr 2 0,.ptr 0 0,.ptr 4 0]]],[(0,0)]⟩) (by kernel_rfl) trivial ?_
                      refine ExI.nil ?_
                      refine Ex.cond (b:=false) rfl ?_
                      refine Ex.skip ?_
                      (try simp only [reduceCtorEq,AEx.ex.injEq,Nat.reduceEqDiff,if_true,if_false])
                      exact ⟨_,_,bQ [0,1,2,4,10,11,28,29,30],z_105,b_106,h,rfl,rfl⟩
                  ·rintro a S ⟨z_85,b_86,h,rfl,rfl⟩
                   subst hK_89
                   refine rg 2 [0,1,2,4,10,11,28,29,30] (mkS 62 [(0,.yld Lp_35.l 0),(1,.rop (aF r_34.1)),(2,.rop (aJ r_34.2)),(4,i6 y_52),(10,i6 ((r_34.1.jobs_.length : Nat) : Int)),(11,i6 y_52),(28,.sl (x_72.map (AV.int .i64)) none),(29,i6 ((x_72.length : Nat) : Int)),(30,i6 (IntKind.i64.wrap (y_78 + 1)))]) ⟨[(aF p_1),[i6 0,i6 0,i6 0,i6 0,i6 0,i6 0,i6 0,i6 0,i6 0,i6 0,i6 0,i6 0,i6 0,i6 0,.bool false,.bool false,.bool false,.bool false,.bool false,.bool false,.bool false,i6 0,i6 0,i6 0],(aJ z_85),[.bool b_86],[.fn 66 [] [.ptr 3 0,.ptr 2 0,.ptr 0 0,.ptr 4 0]]],[(0,0)]⟩ ?_
                   dsimp only
                   exact ⟨_,_,aM.refl _ _ _,k,Nat.lt_succ_self k,(IntKind.i64.wrap (y_78 + 1)),z_85,b_86,h,rfl,rfl⟩
                 ·refine Ex.condF _ rfl hc_84 ?_
                  refine Ex.exit ?_
                  (try simp only [reduceCtorEq,AEx.ex.injEq,Nat.reduceEqDiff,if_true,if_false])
                  exact ⟨_,_,bQ [0,1,2,10,11],z_79,b_80,h,rfl,rfl⟩
               ·rintro a S ⟨z_73,b_74,h,rfl,rfl⟩
                subst hK_77
                (try simp only [reduceCtorEq,AEx.ex.injEq,Nat.reduceEqDiff,if_true,if_false])
                exact ⟨_,_,aM.refl _ _ _,z_73,b_74,h,rfl,rfl⟩
            ·rintro a S ⟨z_59,b_60,h,rfl,rfl⟩
             subst hK_63
             refine rg 2 [0,1,2,10,11] (mkS 62 [(0,.yld Lp_35.l 0),(1,.rop (aF r_34.1)),(2,.rop (aJ r_34.2)),(10,i6 ((r_34.1.jobs_.length : Nat) : Int)),(11,i6 (IntKind.i64.wrap (y_52 + 1)))]) ⟨[(aF p_1),[i6 0,i6 0,i6 0,i6 0,i6 0,i6 0,i6 0,i6 0,i6 0,i6 0,i6 0,i6 0,i6 0,i6 0,.bool false,.bool false,.bool false,.bool false,.bool false,.bool false,.bool false,i6 0,i6 0,i6 0],(aJ z_59),[.bool b_60],[.fn 66 [] [.ptr 3 0,.ptr 2 0,.ptr 0 0,.ptr 4 0]]],[(0,0)]⟩ ?_
             dsimp only
             exact ⟨_,_,aM.refl _ _ _,k,Nat.lt_succ_self k,(IntKind.i64.wrap (y_52 + 1)),z_59,b_60,h,rfl,rfl⟩
           ·refine Ex.condF _ rfl hc_58 ?_
            refine Ex.exit ?_
            (try simp only [reduceCtorEq,AEx.ex.injEq,Nat.reduceEqDiff,if_true,if_false])
            exact ⟨_,_,bQ [],z_53,b_54,h,rfl,rfl⟩
         ·rintro a S ⟨z_47,b_48,h,rfl,rfl⟩
          subst hK_51
          exact ⟨_,_,aM.refl _ _ _,.inl rfl,0,rfl,⟨by first | rfl | trivial,z_47,b_48,h,rfl⟩⟩
        ·rintro k S (⟨rfl,z_42,b_43,h,rfl⟩)
         subst hK_46
         (try simp only [reduceCtorEq,AEx.ex.injEq,Nat.reduceEqDiff,if_true,if_false])
         exact ⟨_,_,bM (m:=30) 5 [] [] [(aF p_1),[i6 0,i6 0,i6 0,i6 0,i6 0,i6 0,i6 0,i6 0,i6 0,i6 0,i6 0,i6 0,i6 0,i6 0,.bool false,.bool false,.bool false,.bool false,.bool false,.bool false,.bool false,i6 0,i6 0,i6 0],(aJ z_42),[.bool b_43],[.fn 66 [] [.ptr 3 0,.ptr 2 0,.ptr 0 0,.ptr 4 0]]] [] (leC hcn_5 (by simp [bD])) (by simp) trivial (by simp) rfl (by decide) (sig0 0 hcm_6 rfl),z_42,b_43,h,rfl,rfl⟩
    ·rintro a S ⟨z_21,b_22,h,rfl,rfl⟩
     subst hK_25
     obtain rfl:=sJ h
     exact ⟨_,_,aM.refl _ _ _,.inl rfl,_,by kernel_rfl,⟨z_21,b_22,rfl,rfl,rfl⟩⟩
  refine ExO.inlY (fun v S => (∃ (z_11 : aL),∃ (b_12 : Bool),(z_11,b_12) = s_19 ∧ v = .tup [] ∧ S = ⟨[(aF p_1),[i6 0,i6 0,i6 0,i6 0,i6 0,i6 0,i6 0,i6 0,i6 0,i6 0,i6 0,i6 0,i6 0,i6 0,.bool false,.bool false,.bool false,.bool false,.bool false,.bool false,.bool false,i6 0,i6 0,i6 0],(aJ z_11),[.bool b_12],[.fn 66 [] [.ptr 3 0,.ptr 2 0,.ptr 0 0,.ptr 4 0]]],[]⟩)) 66 [(aO r_2),.ptr 3 0,.ptr 2 0,.ptr 0 0,.ptr 4 0] _ comp66 (by simp [bD]) rfl (by kernel_rfl) (mkS 30 [(0,(aO r_2)),(1,.ptr 3 0),(2,.ptr 2 0),(3,.ptr 0 0),(4,.ptr 4 0),(5,.tup []),(6,.tup []),(7,.tup []),(8,.tup []),(9,.tup []),(10,.tup []),(11,.tup []),(12,.tup []),(13,.tup []),(14,.tup []),(15,.tup []),(16,.tup []),(17,.tup []),(18,.tup []),(19,.tup []),(20,.tup []),(21,.tup []),(22,.tup []),(23,.tup []),(24,.tup []),(25,.tup []),(26,.tup []),(27,.tup []),(28,.tup []),(29,.tup [])]) (by kernel_rfl) (fun c1 g1 g2 g3 => hY_18 N r_2 (⟨(⟨(⟨0,0⟩ : aG),(⟨0,0⟩ : aG),(⟨0,0⟩ : aG),(⟨0,0⟩ : aG),(⟨0,0⟩ : aG),(⟨0,0⟩ : aG),(⟨0,0⟩ : aG)⟩ : dH),(⟨false,false,false,false,false,false,false⟩ : dY),0,0,0⟩ : aL) false _ hs_20 c1 g1 g2 g3) ?_
  rintro v S (⟨z_11,b_12,rfl,rfl,rfl⟩)
  replace h : K_118 z_11 b_12 = some r:=h
  subst hK_119
  refine rn 0 [2,3] (mkS 14 [(2,.ptr 1 0),(3,.ptr 2 0)]) ⟨[(aF p_1),[i6 0,i6 0,i6 0,i6 0,i6 0,i6 0,i6 0,i6 0,i6 0,i6 0,i6 0,i6 0,i6 0,i6 0,.bool false,.bool false,.bool false,.bool false,.bool false,.bool false,.bool false,i6 0,i6 0,i6 0],(aJ z_11),[.bool b_12],[.fn 66 [] [.ptr 3 0,.ptr 2 0,.ptr 0 0,.ptr 4 0]]],[]⟩ ?_
  refine ExO.nil ?_
  refine Ex.seq (rg 2 [2] (mkS 14 [(2,.ptr 1 0)]) ⟨[(aF p_1),(aJ z_11),(aJ z_11),[.bool b_12],[.fn 66 [] [.ptr 3 0,.ptr 2 0,.ptr 0 0,.ptr 4 0]]],[]⟩ ?_)
  refine Ex.ret ?_
  obtain rfl:=sJ h
  exact rt ((aO z_11))
def fB (N : Nat) (s_1 : (List aG)) : Option ((List aG)):=iO ([] : List aG) s_1
def mP (r : (List aG)) : AV:=.sl (r.map aA) none
attribute [local simp] mP
theorem mR (N : Nat) (s_1 : (List aG)) (r : (List aG)) (h : fB N s_1 = some r) : aAF Tryz.prog ⟨47,[.sl (s_1.map aA) none],r.map aA,r.length,2⟩:=by
 refine ⟨?_,(cF _),by simp⟩
 unfold fB at h
 refine aCW.of comp47 ?_
 refine Ex.seq (rg 1 [0] (mkS 8 [(0,.sl (s_1.map aA) none)]) ⟨[],[]⟩ ?_)
 refine Ex.seq (Ex.seq ?_)
 refine Ex.reg (rn 1 [0,3] (mkS 8 [(0,.sl (s_1.map aA) none),(3,.sl (s_1.map aA) none)]) ⟨[],[]⟩ ?_)
 refine ExO.isNil false (.tmp 3) (s_1.map aA) rfl rfl rfl (fun b hb => ?_)
 refine rn 0 [0,4] (mkS 8 [(0,.sl (s_1.map aA) none),(4,.bool (b != false))]) ⟨[],[]⟩ ?_
 refine ExO.nil ?_
 cases b
 ·refine Ex.condF (false != false) rfl rfl ?_
  refine Ex.skip ?_
  refine Ex.seq ?_
  refine regH 4 [(2,.apps (s_1.map aA) (r.map aA) r.length)] [2] [lQ 0 (([] : List aG).map aA) (s_1.map aA) (s_1.map aA) 2 (r.map aA) r.length] (mkS 8 [(2,.sl (r.map aA) (some 0))]) (⟨[],[(r.length,2)]⟩) (by kernel_rfl) ⟨lQ.of h (fun _ => rfl) (fun _ => rfl) (fun _ => rfl),trivial⟩ rfl ?_
  refine Ex.ret ?_
  exact ⟨.inr rfl,.sl (r.map aA) (some 0),by kernel_rfl,0,rfl,rfl⟩
 ·have hl : s_1 = []:=List.map_eq_nil_iff.1 (hb rfl)
  subst hl
  have hr : r = []:=by simpa [iO] using h.symm
  subst hr
  refine Ex.condT (true != false) rfl rfl ?_
  refine Ex.seq (rg 1 [2] (mkS 8 [(2,.nils)]) ⟨[],[]⟩ ?_)
  refine Ex.forget (nilK 2 2 rfl) ?_
  refine Ex.ret ?_
  exact ⟨.inr rfl,.sl [] (some 0),by kernel_rfl,0,rfl,rfl⟩
noncomputable def qO (N : Nat) (s_1 : aH) : Option ((List aG) × Int × Int):=((cX N s_1).bind fun r_2 => (bif (r_2 != 0) then some ([],0,r_2) else ((kR N s_1).bind fun r_4 => ((iR N r_4).bind fun r_5 => ((cutL r_5.shifts_.l 7 ((s_1.Jobs.length : Nat) : Int)).bind fun l_6 => ((fB N l_6).bind fun r_7 => some (r_7,r_5.days_,0)))))))
def nK (r : (List aG) × Int × Int) : AV:=.tup [.sl (r.1.map aA) none,i6 r.2.1,i6 r.2.2]
attribute [local simp] nK
theorem aCJ (s_1 : aH) : [(aC s_1)].mapM (ren []) = some [(aC s_1)]:=by simp
theorem aCy (r : (List aG) × Int × Int) (n n2 m : Nat) : back n n2 m (nK r) = some (nK r):=by simp
theorem aCe (N : Nat) (s_1 : aH) (r : (List aG) × Int × Int) (h : qO N s_1 = some r) : Does Tryz.prog 22 [(aC s_1)] [] fun v c => v = nK r ∧ c = []:=by
 unfold qO at h
 refine Does.ofL comp22 _ _ rfl rfl ?_
 refine Ex.seq (rg 4 [1] (mkS 23 [(1,.ptr 0 0)]) ⟨[(aB s_1)],[]⟩ ?_)
 refine Ex.seq (Ex.seq ?_)
 obtain ⟨r_2,hr_2,h⟩:=bE h
 refine Ex.reg (rn 1 [1,7] (mkS 23 [(1,.ptr 0 0),(7,(aC s_1))]) ⟨[(aB s_1)],[]⟩ ?_)
 refine ExO.callL [] [(aC s_1)] rfl rfl (nG s_1) rfl rfl (mY N s_1 r_2 hr_2) (nD _ _ _ _) rfl ?_
 refine rn 1 [1,5] (mkS 23 [(1,.ptr 0 0),(5,i6 r_2)]) ⟨[(aB s_1)],[]⟩ ?_
 refine ExO.nil ?_
 refine Ex.seq (rg 2 [1,5,10] (mkS 23 [(1,.ptr 0 0),(5,i6 r_2),(10,.bool (r_2 != 0))]) ⟨[(aB s_1)],[]⟩ ?_)
 rcases aY h with ⟨hc_3,h⟩ | ⟨hc_3,h⟩
 ·refine Ex.condT _ rfl hc_3 ?_
  refine Ex.seq (rg 4 [2,3,4] (mkS 23 [(2,.nils),(3,i6 0),(4,i6 r_2)]) ⟨[(aB s_1)],[]⟩ ?_)
  refine Ex.ret ?_
  obtain rfl:=sJ h
  exact rt (.tup [.nils,i6 0,i6 r_2])
 ·refine Ex.condF _ rfl hc_3 ?_
  refine Ex.skip ?_
  refine Ex.seq ?_
  obtain ⟨r_4,hr_4,h⟩:=bE h
  refine Ex.reg (rn 1 [1,12] (mkS 23 [(1,.ptr 0 0),(12,(aC s_1))]) ⟨[(aB s_1)],[]⟩ ?_)
  refine ExO.callL [] [(aC s_1)] rfl rfl (wF s_1) rfl rfl (vU N s_1 r_4 hr_4) (wA _ _ _ _) rfl ?_
  obtain ⟨r_5,hr_5,h⟩:=bE h
  refine ExO.callL [] [(aQ r_4)] rfl rfl (sR r_4) rfl rfl (sG N r_4 r_5 hr_5) (sM _ _ _ _) rfl ?_
  refine rn 2 [1,6] (mkS 23 [(1,.ptr 0 0),(6,.ptr 1 0)]) ⟨[(aB s_1),(aJ r_5)],[]⟩ ?_
  refine ExO.nil ?_
  refine Ex.seq ?_
  obtain ⟨l_6,hl_6,h⟩:=bE h
  obtain ⟨r_7,hr_7,h⟩:=bE h
  refine Ex.drawE (a1:=mkS 23 [(1,.ptr 0 0),(2,.sl (r_7.map aA) none),(6,.ptr 1 0),(15,.ptr 1 0),(16,.ptr 0 1),(17,.sl (s_1.Jobs.map aI) none),(18,i6 ((s_1.Jobs.length : Nat) : Int)),(19,.ms 1 (Int.toNat ((s_1.Jobs.length : Nat) : Int)) 2),(20,.sl (r_7.map aA) none),(21,.ptr 1 23),(22,i6 r_5.days_)]) (aEs (ls:=[(1,2,l_6.map aA,flat ((r_5.shifts_.l.drop l_6.length).map aA) ++ [.bool r_5.planned_.a0,.bool r_5.planned_.a1,.bool r_5.planned_.a2,.bool r_5.planned_.a3,.bool r_5.planned_.a4,.bool r_5.planned_.a5,.bool r_5.planned_.a6,i6 r_5.many_,i6 r_5.last_,i6 r_5.days_])]) (xs:=[.ms 1 (Int.toNat ((s_1.Jobs.length : Nat) : Int)) 2]) (mR N l_6 r_7 hr_7) (aAu (f:=aA) (fun _ => rfl) _) (by exact ⟨.s 0 rfl ((cutL.toN hl_6).trans (List.length_map ..).symm),trivial⟩) (cP _)) [] [] [] ?_ ?_
  ·refine drS [0, 1] 5 [(3, .eq (i6 ((s_1.Jobs.length : Nat) : Int))), (4, .adm)] [AV.int .i64 (((s_1.Jobs.map aI).length : Nat) : Int) = AV.int .i64 ((s_1.Jobs.length : Nat) : Int), 0 = 0 ∧ 0 ≤ ((s_1.Jobs.length : Nat) : Int) ∧ ((s_1.Jobs.length : Nat) : Int) ≤ ((7 : Nat) : Int)] (mkS 23 [(1, .ptr 0 0), (6, .ptr 1 0), (15, .ptr 1 0), (16, .ptr 0 1), (17, .sl (s_1.Jobs.map aI) none), (18, i6 ((s_1.Jobs.length : Nat) : Int)), (19, .ms 1 (Int.toNat ((s_1.Jobs.length : Nat) : Int)) 2)]) (by simp) (by kernel_rfl) ⟨lenM _ _, cutL.adm hl_6, trivial⟩ (by kernel_rfl) ?_
   refine aHW rfl rfl (fun _ _ => rfl) (by exact (List.forall_mem_cons.2 ⟨⟨⟨(by show some _ = some _; refine congrArg some ?_; rw [← List.append_assoc,← cutL.flat hl_6 aA]; kernel_rfl),show 0 < 2 by decide,fun i e he => mN (f:=aA) (s:=2) (fun _ => rfl) _ e (List.mem_of_getElem? he),(tJ (f:=aA) (fun _ => rfl) _),show 1 ∉ ([] : List Nat) by decide⟩,trivial⟩,(fun _ h => (List.not_mem_nil h).elim)⟩)) ?_
   refine drS [0,1] 3 [] [] (mkS 23 [(1,.ptr 0 0),(2,.sl (r_7.map aA) none),(6,.ptr 1 0),(15,.ptr 1 0),(16,.ptr 0 1),(17,.sl (s_1.Jobs.map aI) none),(18,i6 ((s_1.Jobs.length : Nat) : Int)),(19,.ms 1 (Int.toNat ((s_1.Jobs.length : Nat) : Int)) 2),(20,.sl (r_7.map aA) none),(21,.ptr 1 23),(22,i6 r_5.days_)]) (by simp) (by kernel_rfl) trivial (by kernel_rfl) ?_
   exact DrO.nil rfl
  ·dsimp only [List.getLastD_cons,List.getLastD_nil]
   refine rn 2 [2,3,4] (mkS 23 [(2,.sl (r_7.map aA) none),(3,i6 r_5.days_),(4,i6 0)]) ⟨[(aB s_1),(aJ r_5)],[]⟩ ?_
   refine ExO.nil ?_
   refine Ex.ret ?_
   obtain rfl:=sJ h
   exact rt (.tup [.sl (r_7.map aA) none,i6 r_5.days_,i6 0])
end
section
open Go.RowKit
theorem w64 {x : Int} (h0 : -9223372036854775808 ≤ x) (h1 : x < 9223372036854775808) : IntKind.i64.wrap x = x:=by
 simp [IntKind.wrap,IntKind.bits,IntKind.signed]
 omega
theorem wu64 (x : Int) : 0 ≤ IntKind.u64.wrap x ∧ IntKind.u64.wrap x < 2 ^ 64:=by
 have e : IntKind.u64.wrap x = x % 2 ^ 64:=rfl
 omega
theorem aFS {x : Int} (h0 : 0 ≤ x) (h1 : x < 2 ^ 64) : IntKind.u64.wrap x = x:=by
 have e : IntKind.u64.wrap x = x % 2 ^ 64:=rfl
 omega
section
variable {α A B C D ρ : Type}
theorem aDQ {body : (A → B → Option ρ) → A → B → Option ρ} (T : Option ρ → Prop) (P : A → B → Prop) (μ : A → B → Nat) (h : ∀ rec a b,P a b → (∀ a' b',P a' b' → μ a' b' < μ a b → T (rec a' b')) → T (body rec a b)) : ∀ (N : Nat) (a : A) (b : B),P a b → μ a b < N → T (loop2 body N a b)
 | 0,a,b,_,hm => absurd hm (Nat.not_lt_zero _)
 | n + 1,a,b,hp,hm => h (loop2 body n) a b hp fun a' b' hp' hm' => aDQ T P μ h n a' b' hp' (by omega)
theorem aAO {body : (A → B → C → Option ρ) → A → B → C → Option ρ} (T : Option ρ → Prop) (P : A → B → C → Prop) (μ : A → B → C → Nat) (h : ∀ rec a b c,P a b c → (∀ a' b' c',P a' b' c' → μ a' b' c' < μ a b c → T (rec a' b' c')) → T (body rec a b c)) : ∀ (N : Nat) (a : A) (b : B) (c : C),P a b c → μ a b c < N → T (loop3 body N a b c)
 | 0,a,b,c,_,hm => absurd hm (Nat.not_lt_zero _)
 | n + 1,a,b,c,hp,hm => h (loop3 body n) a b c hp fun a' b' c' hp' hm' => aAO T P μ h n a' b' c' hp' (by omega)
theorem aDP {body : (A → B → C → D → Option ρ) → A → B → C → D → Option ρ} (T : Option ρ → Prop) (P : A → B → C → D → Prop) (μ : A → B → C → D → Nat) (h : ∀ rec a b c d,P a b c d → (∀ a' b' c' d',P a' b' c' d' → μ a' b' c' d' < μ a b c d → T (rec a' b' c' d')) → T (body rec a b c d)) : ∀ (N : Nat) (a : A) (b : B) (c : C) (d : D),P a b c d → μ a b c d < N → T (loop4 body N a b c d)
 | 0,a,b,c,d,_,hm => absurd hm (Nat.not_lt_zero _)
 | n + 1,a,b,c,d,hp,hm => h (loop4 body n) a b c d hp fun a' b' c' d' hp' hm' => aDP T P μ h n a' b' c' d' hp' (by omega)
end
theorem bX {α : Type} (l : List α) (i : Nat) : getI l (i : Int) = l[i]?:=by simp [getI]
theorem aDW {α : Type} {l : List α} {i : Int} (h0 : 0 ≤ i) (h1 : i < (l.length : Int)) : ∃ x,getI l i = some x ∧ l[i.toNat]? = some x ∧ x ∈ l:=by
 have hlt : i.toNat < l.length:=by omega
 refine ⟨l[i.toNat],?_,List.getElem?_eq_getElem hlt,List.getElem_mem hlt⟩
 simp only [getI,h0,if_true]
 exact List.getElem?_eq_getElem hlt
theorem hZ {α : Type} {l m : List α} (h : l.length + m.length ≤ 65536) : iO l m = some (l ++ m):=if_pos h
theorem dJ {κ ρ : Type} (K : κ) (f : κ → Option ρ) : letJ K f = f K:=rfl
section
variable {A B ρ : Type}
theorem st1 (n : Nat) (body : (Int → Option ρ) → Int → Option ρ) (r : Option ρ) (hend : ∀ rec,body rec (n : Int) = r) (hstep : ∀ rec (i : Nat),i < n → body rec (i : Int) = rec ((i + 1 : Nat) : Int)) : ∀ (N i : Nat),i ≤ n → n - i < N → loop1 body N (i : Int) = r
 | 0,i,_,h => absurd h (Nat.not_lt_zero _)
 | N + 1,i,hle,hN => by
  show body (loop1 body N) (i : Int) = _
  by_cases hlt : i < n
  ·rw [hstep _ i hlt]; exact st1 n body r hend hstep N (i + 1) (by omega) (by omega)
  ·have : i = n := by omega
   subst this
   exact hend _
theorem st2 (n : Nat) (st : Nat → A) (body : (Int → A → Option ρ) → Int → A → Option ρ) (r : Option ρ) (hend : ∀ rec,body rec (n : Int) (st n) = r) (hstep : ∀ rec (i : Nat),i < n → body rec (i : Int) (st i) = rec ((i + 1 : Nat) : Int) (st (i + 1))) : ∀ (N i : Nat),i ≤ n → n - i < N → loop2 body N (i : Int) (st i) = r
 | 0,i,_,h => absurd h (Nat.not_lt_zero _)
 | N + 1,i,hle,hN => by
  show body (loop2 body N) (i : Int) (st i) = _
  by_cases hlt : i < n
  ·rw [hstep _ i hlt]; exact st2 n st body r hend hstep N (i + 1) (by omega) (by omega)
  ·have : i = n := by omega
   subst this
   exact hend _
theorem st2' (n : Nat) (st : Nat → A) (body : (A → Int → Option ρ) → A → Int → Option ρ) (r : Option ρ) (hend : ∀ rec,body rec (st n) (n : Int) = r) (hstep : ∀ rec (i : Nat),i < n → body rec (st i) (i : Int) = rec (st (i + 1)) ((i + 1 : Nat) : Int)) : ∀ (N i : Nat),i ≤ n → n - i < N → loop2 body N (st i) (i : Int) = r
 | 0,i,_,h => absurd h (Nat.not_lt_zero _)
 | N + 1,i,hle,hN => by
  show body (loop2 body N) (st i) (i : Int) = _
  by_cases hlt : i < n
  ·rw [hstep _ i hlt]; exact st2' n st body r hend hstep N (i + 1) (by omega) (by omega)
  ·have : i = n := by omega
   subst this
   exact hend _
theorem st2z' (n : Nat) (st : Nat → A) {body : (A → Int → Option ρ) → A → Int → Option ρ} {r : Option ρ} {a : A} {N : Nat} (ha : a = st 0) (hN : n < N) (hend : ∀ rec,body rec (st n) (n : Int) = r) (hstep : ∀ rec (i : Nat),i < n → body rec (st i) (i : Int) = rec (st (i + 1)) ((i + 1 : Nat) : Int)) : loop2 body N a 0 = r:=by
 subst ha; exact st2' n st body r hend hstep N 0 (Nat.zero_le _) (by omega)
end
theorem nadd1 (i : Nat) (h : i < 4611686018427387904) : IntKind.i64.wrap ((i : Int) + 1) = ((i + 1 : Nat) : Int):=by
 rw [w64 (x:=(i : Int) + 1) (by omega) (by omega)]
 omega
theorem ltD {i n : Nat} (h : i < n) : decide ((i : Int) < ((n : Nat) : Int)) = true:=decide_eq_true (by omega)
theorem ltE (n : Nat) : decide (((n : Nat) : Int) < ((n : Nat) : Int)) = false:=decide_eq_false (by omega)
def pre (l : List Int) (i : Nat) : Int:=(l.take i).sum
section
variable {α A B C D ρ : Type}
end
end
section
def lxL : List Int → List Int → Prop
 | x :: l,y :: m => x < y ∨ x = y ∧ lxL l m
 | _,_ => False
theorem lxL.irr : ∀ l,¬ lxL l l
 | [],h => h
 | x :: l,h => by
  rcases h with h | ⟨_,h⟩
  ·omega
  ·exact lxL.irr l h
theorem lxL.trans : ∀ {l m k : List Int},lxL l m → lxL m k → lxL l k
 | [],_,_,h,_ => h.elim
 | _ :: _,[],_,h,_ => h.elim
 | _ :: _,_ :: _,[],_,h => h.elim
 | x :: l,y :: m,z :: k,h1,h2 => by
  rcases h1 with h1 | ⟨e1,h1⟩ <;> rcases h2 with h2 | ⟨e2,h2⟩
  ·exact .inl (by omega)
  ·exact .inl (by omega)
  ·exact .inl (by omega)
  ·exact .inr ⟨by omega,lxL.trans h1 h2⟩
def lxE (l m : List Int) : Prop:=l = m ∨ lxL l m
theorem lxE.refl (l : List Int) : lxE l l:=.inl rfl
theorem lxE.trans {l m k : List Int} (h1 : lxE l m) (h2 : lxE m k) : lxE l k:=by
 rcases h1 with rfl | h1
 ·exact h2
 ·rcases h2 with rfl | h2
  ·exact .inr h1
  ·exact .inr (h1.trans h2)
theorem lxE.not {l m : List Int} (h : lxE l m) (h2 : lxL m l) : False:=by
 rcases h with rfl | h
 ·exact lxL.irr _ h2
 ·exact lxL.irr _ (h.trans h2)
def leL : List Int → List Int → Prop
 | x :: l,y :: m => x ≤ y ∧ leL l m
 | [],[] => True
 | _,_ => False
theorem leL.lx : ∀ {l m : List Int},leL l m → lxE l m
 | [],[],_ => .inl rfl
 | [],_ :: _,h => h.elim
 | _ :: _,[],h => h.elim
 | x :: l,y :: m,⟨h1,h2⟩ => by
  by_cases hx : x < y
  ·exact .inr (.inl hx)
  ·have : x = y := by omega
   subst this
   rcases h2.lx with rfl | h
   ·exact .inl rfl
   ·exact .inr (.inr ⟨rfl,h⟩)
theorem leL.refl : ∀ l,leL l l
 | [] => trivial
 | x :: l => ⟨Int.le_refl x,leL.refl l⟩
theorem leL.app : ∀ {l m l' m' : List Int},leL l m → leL l' m' → leL (l ++ l') (m ++ m')
 | [],[],_,_,_,h => h
 | [],_ :: _,_,_,h,_ => h.elim
 | _ :: _,[],_,_,h,_ => h.elim
 | x :: l,y :: m,_,_,⟨h1,h2⟩,h => ⟨h1,h2.app h⟩
theorem leL.map {α : Type} (f g : α → Int) : ∀ (l : List α),(∀ x,x ∈ l → f x ≤ g x) → leL (l.map f) (l.map g)
 | [],_ => trivial
 | x :: l,h => ⟨h x (by simp),leL.map f g l fun y hy => h y (by simp [hy])⟩
def mxN (f : Nat → Int) : Nat → Int
 | 0 => 0
 | n + 1 => max (mxN f n) (f n)
theorem mxN.ge (f : Nat → Int) : ∀ (n i : Nat),i < n → f i ≤ mxN f n
 | 0,i,h => absurd h (Nat.not_lt_zero _)
 | n + 1,i,h => by
  simp only [mxN]
  by_cases hi : i = n
  ·subst hi; omega
  ·have := mxN.ge f n i (by omega)
   omega
theorem mxN.pos (f : Nat → Int) : ∀ n,0 ≤ mxN f n
 | 0 => by simp [mxN]
 | n + 1 => by have:=mxN.pos f n; simp only [mxN]; omega
theorem mxN.le (f : Nat → Int) {c : Int} (hc : 0 ≤ c) : ∀ n,(∀ i,i < n → f i ≤ c) → mxN f n ≤ c
 | 0,_ => hc
 | n + 1,h => by have:=mxN.le f hc n (fun i hi => h i (by omega)); have:=h n (by omega); simp only [mxN]; omega
theorem mxN.mono (f g : Nat → Int) (n : Nat) (h : ∀ i,i < n → f i ≤ g i) : mxN f n ≤ mxN g n :=
 mxN.le f (mxN.pos g n) n fun i hi => by have:=mxN.ge g n i hi; have:=h i hi; omega
theorem mxN.congr (f g : Nat → Int) (n : Nat) (h : ∀ i,i < n → f i = g i) : mxN f n = mxN g n:=by
 have h1:=mxN.mono f g n fun i hi => by have:=h i hi; omega
 have h2:=mxN.mono g f n fun i hi => by have:=h i hi; omega
 omega
def smN (f : Nat → Int) : Nat → Int
 | 0 => 0
 | n + 1 => smN f n + f n
theorem smN.mono (f g : Nat → Int) : ∀ n,(∀ i,i < n → f i ≤ g i) → smN f n ≤ smN g n
 | 0,_ => by simp [smN]
 | n + 1,h => by have:=smN.mono f g n (fun i hi => h i (by omega)); have:=h n (by omega); simp only [smN]; omega
theorem smN.pos (f : Nat → Int) : ∀ n,(∀ i,i < n → 0 ≤ f i) → 0 ≤ smN f n
 | 0,_ => by simp [smN]
 | n + 1,h => by have:=smN.pos f n (fun i hi => h i (by omega)); have:=h n (by omega); simp only [smN]; omega
theorem smN.lt (f g : Nat → Int) : ∀ (n k : Nat),k < n → (∀ i,i < n → f i ≤ g i) → f k < g k → smN f n < smN g n
 | 0,k,h,_,_ => absurd h (Nat.not_lt_zero _)
 | n + 1,k,hk,h,hlt => by
  simp only [smN]
  have hn:=h n (by omega)
  by_cases e : k = n
  ·subst e
   have:=smN.mono f g k (fun i hi => h i (by omega))
   omega
  ·have := smN.lt f g n k (by omega) (fun i hi => h i (by omega)) hlt
   omega
theorem smN.eq (f g : Nat → Int) : ∀ n,(∀ i,i < n → f i = g i) → smN f n = smN g n
 | 0,_ => rfl
 | n + 1,h => by rw [smN,smN,smN.eq f g n (fun i hi => h i (by omega)),h n (by omega)]
theorem smN.one (f g : Nat → Int) : ∀ (n k : Nat),k < n → (∀ i,i < n → i ≠ k → f i = g i) → smN f n = smN g n + (f k - g k)
 | 0,k,h,_ => absurd h (Nat.not_lt_zero _)
 | n + 1,k,hk,h => by
  simp only [smN]
  by_cases e : k = n
  ·subst e
   rw [smN.eq f g k (fun i hi => h i (by omega) (by omega))]
   omega
  ·rw [smN.one f g n k (by omega) (fun i hi hn => h i (by omega) hn), h n (by omega) (fun c => e c.symm)]
   omega
structure Shp where
 n : Nat
 D : Nat → Int
 aft : Nat → Int
 can : Nat → Int → Prop
 hD : ∀ j,j < n → 1 ≤ D j
 ha : ∀ j,j < n → aft j = -1 ∨ ∃ b : Nat,aft j = (b : Int) ∧ b < j
structure Okp (s : Shp) (w d : Nat → Int) : Prop where
 can : ∀ j,j < s.n → s.can j (w j)
 pos : ∀ j,j < s.n → 0 ≤ d j
 ord : ∀ (j b : Nat),j < s.n → s.aft j = (b : Int) → d b + s.D b ≤ d j
 cl : ∀ j k,j < s.n → k < s.n → j ≠ k → w j = w k → d j + s.D j ≤ d k ∨ d k + s.D k ≤ d j
def Bef (d : Nat → Int) (j k : Nat) : Prop:=d j < d k ∨ d j = d k ∧ j < k
def Tgt (s : Shp) (w d : Nat → Int) : Prop:=∀ k,k < s.n → d k = 0 ∨ (∃ b : Nat,s.aft k = (b : Int) ∧ d k = d b + s.D b) ∨ ∃ j,j < s.n ∧ w j = w k ∧ Bef d j k ∧ d k = d j + s.D j
def keyP (s : Shp) (w d : Nat → Int) : List Int:=mxN (fun j => d j + s.D j) s.n :: ((List.range 7).map d ++ (List.range 7).map w)
theorem keyP.mono {s : Shp} {w d d' : Nat → Int} (h : ∀ j,d' j ≤ d j) : lxE (keyP s w d') (keyP s w d) :=
 leL.lx ⟨mxN.mono _ _ _ fun i hi => by have:=h i; omega,(leL.map _ _ _ fun j hj => h j).app (leL.refl _)⟩
end
section
structure Dr where
 pl : Nat → Bool
 w : Nat → Int
 d : Nat → Int
 last : Int
def rdyD (s : Shp) (x : Dr) (j : Nat) : Int:=if s.aft j = -1 then 0 else x.d (s.aft j).toNat + s.D (s.aft j).toNat
def wN (x : Dr) (j : Nat) : Int:=if x.last = -1 then 0 else if (j : Int) < x.last then x.d x.last.toNat + 1 else x.d x.last.toNat
def freD (s : Shp) (x : Dr) (w : Int) : Int:=mxN (fun j => if x.pl j = true ∧ x.w j = w then x.d j + s.D j else 0) s.n
structure DI (s : Shp) (x : Dr) : Prop where
 can : ∀ j,j < s.n → x.pl j = true → s.can j (x.w j) ∧ 0 ≤ x.d j
 ord : ∀ j,j < s.n → x.pl j = true → s.aft j = -1 ∨ x.pl (s.aft j).toNat = true ∧ rdyD s x j ≤ x.d j
 cl : ∀ j k,j < s.n → k < s.n → j ≠ k → x.pl j = true → x.pl k = true → x.w j = x.w k → x.d j + s.D j ≤ x.d k ∨ x.d k + s.D k ≤ x.d j
 last : (x.last = -1 ∧ ∀ j,j < s.n → x.pl j = false) ∨ ∃ l : Nat,x.last = (l : Int) ∧ l < s.n ∧ x.pl l = true ∧ ∀ j,j < s.n → x.pl j = true → j = l ∨ Bef x.d j l
 un : ∀ j,j < s.n → x.pl j = false → x.w j = 0 ∧ x.d j = max (rdyD s x j) (wN x j)
 out : ∀ j,s.n ≤ j → x.w j = 0 ∧ x.d j = 0
 sum : ∀ j,j < s.n → x.pl j = true → x.d j + s.D j ≤ smN (fun j => if x.pl j = true then s.D j else 0) s.n
structure Adds (s : Shp) (x : Dr) (k : Nat) (w0 day : Int) (y : Dr) : Prop where
 last : y.last = (k : Int)
 pl : ∀ j,y.pl j = if j = k then true else x.pl j
 w : ∀ j,y.w j = if j = k then w0 else x.w j
 d : ∀ j,j < s.n → y.pl j = true → y.d j = if j = k then day else x.d j
 un : ∀ j,j < s.n → y.pl j = false → y.d j = max (rdyD s y j) (wN y j)
 out : ∀ j,s.n ≤ j → y.d j = x.d j
theorem Shp.aftc (s : Shp) {j : Nat} (hj : j < s.n) (h : s.aft j ≠ -1) : s.aft j = ((s.aft j).toNat : Int) ∧ (s.aft j).toNat < j:=by
 rcases s.ha j hj with e | ⟨b,e,hb⟩
 ·exact absurd e h
 ·rw [e]; exact ⟨by simp,by simpa using hb⟩
theorem DI.lastle {s : Shp} {x : Dr} (h : DI s x) {j : Nat} (hj : j < s.n) (hp : x.pl j = true) : ∃ l : Nat,x.last = (l : Int) ∧ l < s.n ∧ x.pl l = true ∧ x.d j ≤ x.d l ∧ (j = l ∨ Bef x.d j l):=by
 rcases h.last with ⟨_,h2⟩ | ⟨l,h1,h2,h3,h4⟩
 ·rw [h2 j hj] at hp; cases hp
 ·refine ⟨l,h1,h2,h3,?_,h4 j hj hp⟩
  rcases h4 j hj hp with rfl | h5
  ·exact Int.le_refl _
  ·rcases h5 with h5 | h5 <;> omega
theorem DI.add {s : Shp} {x y : Dr} {k : Nat} {w0 day : Int} (h : DI s x) (hk : k < s.n) (hpk : x.pl k = false) (hwait : s.aft k = -1 ∨ x.pl (s.aft k).toNat = true) (hcan : s.can k w0) (hday : day = max (rdyD s x k) (freD s x w0)) (hge : x.d k ≤ day) (hy : Adds s x k w0 day y) : DI s y:=by
 have hyk : y.pl k = true:=by rw [hy.pl,if_pos rfl]
 have hdk : y.d k = day:=by rw [hy.d k hk hyk,if_pos rfl]
 have hold : ∀ j,j < s.n → x.pl j = true → y.pl j = true ∧ y.d j = x.d j ∧ y.w j = x.w j ∧ j ≠ k:=by
  intro j hj hp
  have hne : j ≠ k:=fun e => by subst e; rw [hpk] at hp; cases hp
  have hpy : y.pl j = true:=by rw [hy.pl,if_neg hne]; exact hp
  exact ⟨hpy,by rw [hy.d j hj hpy,if_neg hne],by rw [hy.w,if_neg hne],hne⟩
 have hback : ∀ j,j < s.n → y.pl j = true → j = k ∨ x.pl j = true:=by
  intro j hj hp
  rw [hy.pl] at hp
  split at hp
  ·exact .inl (by assumption)
  ·exact .inr hp
 have hfp : 0 ≤ freD s x w0:=mxN.pos _ _
 have hfre : ∀ j,j < s.n → x.pl j = true → x.w j = w0 → x.d j + s.D j ≤ day:=by
  intro j hj hp hw
  have:=mxN.ge (fun j => if x.pl j = true ∧ x.w j = w0 then x.d j + s.D j else 0) s.n j hj
  simp only [hp,hw,and_self,if_true] at this
  have e : freD s x w0 = mxN (fun j => if x.pl j = true ∧ x.w j = w0 then x.d j + s.D j else 0) s.n:=rfl
  omega
 have hrd : ∀ j,j < s.n → (s.aft j = -1 ∨ x.pl (s.aft j).toNat = true) → rdyD s y j = rdyD s x j:=by
  intro j hj hp
  unfold rdyD
  split
  ·rfl
  ·rename_i ha
   obtain ⟨e1,e2⟩:=s.aftc hj ha
   rcases hp with hp | hp
   ·exact absurd hp ha
   ·rw [(hold _ (by omega) hp).2.1]
 have hsum : smN (fun j => if y.pl j = true then s.D j else 0) s.n = smN (fun j => if x.pl j = true then s.D j else 0) s.n + s.D k:=by
  rw [smN.one (fun j => if y.pl j = true then s.D j else 0) (fun j => if x.pl j = true then s.D j else 0) s.n k hk (fun i hi hne => by rw [hy.pl,if_neg hne])]
  simp only [hyk,hpk,if_true,Bool.false_eq_true,if_false]
  omega
 have hsp : 0 ≤ smN (fun j => if x.pl j = true then s.D j else 0) s.n:=smN.pos _ _ fun i hi => by
  show 0 ≤ (if x.pl i = true then s.D i else 0)
  split
  ·have:=s.hD i hi; omega
  ·omega
 have hrle : rdyD s x k ≤ smN (fun j => if x.pl j = true then s.D j else 0) s.n:=by
  unfold rdyD
  split
  ·exact hsp
  ·rename_i ha
   obtain ⟨e1,e2⟩:=s.aftc hk ha
   rcases hwait with hp | hp
   ·exact absurd hp ha
   ·exact h.sum _ (by omega) hp
 have hfle : freD s x w0 ≤ smN (fun j => if x.pl j = true then s.D j else 0) s.n:=by
  refine mxN.le _ hsp _ fun i hi => ?_
  split
  ·rename_i hp; exact h.sum i hi hp.1
  ·exact hsp
 refine ⟨fun j hj hp => ?_,fun j hj hp => ?_,fun j i hj hi hne hp hq hw => ?_,.inr ⟨k,hy.last,hk,hyk,fun j hj hp => ?_⟩,fun j hj hp => ?_,fun j hj => ?_,fun j hj hp => ?_⟩
 ·rcases hback j hj hp with rfl | hx
  ·rw [hdk,hy.w,if_pos rfl]; exact ⟨hcan,by omega⟩
  ·obtain ⟨_,a2,a3,_⟩:=hold j hj hx
   rw [a2,a3]; exact h.can j hj hx
 ·rcases hback j hj hp with rfl | hx
  ·rcases hwait with ha | ha
   ·exact .inl ha
   ·by_cases e : s.aft j = -1
    ·exact .inl e
    ·obtain ⟨e1,e2⟩:=s.aftc hj e
     refine .inr ⟨(hold _ (by omega) ha).1,?_⟩
     rw [hrd j hj (.inr ha),hdk]
     omega
  ·obtain ⟨_,a2,a3,_⟩:=hold j hj hx
   rcases h.ord j hj hx with ha | ⟨ha,hr⟩
   ·exact .inl ha
   ·by_cases e : s.aft j = -1
    ·exact .inl e
    ·obtain ⟨e1,e2⟩:=s.aftc hj e
     refine .inr ⟨(hold _ (by omega) ha).1,?_⟩
     rw [hrd j hj (.inr ha),a2]
     exact hr
 ·rcases hback j hj hp with rfl | hx
  ·rcases hback i hi hq with rfl | hx2
   ·exact absurd rfl hne
   ·obtain ⟨_,a2,a3,_⟩:=hold i hi hx2
    rw [hdk,a2]
    rw [hy.w,if_pos rfl,a3] at hw
    exact .inr (hfre i hi hx2 hw.symm)
  ·obtain ⟨_,a2,a3,_⟩:=hold j hj hx
   rcases hback i hi hq with rfl | hx2
   ·rw [hdk,a2]
    rw [a3,hy.w,if_pos rfl] at hw
    exact .inl (hfre j hj hx hw)
   ·obtain ⟨_,b2,b3,_⟩:=hold i hi hx2
    rw [a2,b2]
    rw [a3,b3] at hw
    exact h.cl j i hj hi hne hx hx2 hw
 ·rcases hback j hj hp with rfl | hx
  ·exact .inl rfl
  ·obtain ⟨_,a2,a3,a4⟩:=hold j hj hx
   refine .inr ?_
   obtain ⟨l,l1,l2,l3,l4,l5⟩:=h.lastle hj hx
   have hu:=(h.un k hk hpk).2
   unfold Bef
   rw [a2,hdk]
   have ht : wN x k ≤ day:=by omega
   unfold wN at ht
   rw [l1,if_neg (by omega),Int.toNat_natCast] at ht
   split at ht
   ·exact .inl (by omega)
   ·rename_i hlt
    have hlk : l ≠ k:=fun e => by subst e; rw [hpk] at l3; cases l3
    by_cases hd : x.d j < day
    ·exact .inl hd
    ·refine .inr ⟨by omega, ?_⟩
     rcases l5 with rfl | l5
     ·omega
     ·rcases l5 with l5 | l5 <;> omega
 ·have hx : x.pl j = false ∧ j ≠ k:=by
   rw [hy.pl] at hp
   split at hp
   ·cases hp
   ·exact ⟨hp,by assumption⟩
  refine ⟨?_,hy.un j hj hp⟩
  rw [hy.w,if_neg hx.2]
  exact (h.un j hj hx.1).1
 ·rw [hy.w, if_neg (by omega), hy.out j hj]
  exact h.out j hj
 ·rw [hsum]
  rcases hback j hj hp with rfl | hx
  ·rw [hdk]; omega
  ·obtain ⟨_,a2,a3,_⟩:=hold j hj hx
   have:=h.sum j hj hx
   have:=s.hD k hk
   rw [a2]; omega
structure Ext (s : Shp) (x : Dr) (w d : Nat → Int) : Prop where
 ok : Okp s w d
 tg : Tgt s w d
 wp : ∀ j,0 ≤ w j
 pl : ∀ j,j < s.n → x.pl j = true → w j = x.w j ∧ d j = x.d j
 un : ∀ j,j < s.n → x.pl j = false → x.last = -1 ∨ x.d x.last.toNat < d j ∨ x.d x.last.toNat = d j ∧ x.last < (j : Int)
 out : ∀ j,s.n ≤ j → d j = 0
theorem Ext.low {s : Shp} {x : Dr} {w d : Nat → Int} (h : DI s x) (he : Ext s x w d) (j : Nat) : x.d j ≤ d j ∧ x.w j ≤ w j:=by
 induction j using Nat.strongRecOn with
 | _ j ih =>
  by_cases hj : j < s.n
  ·cases hp : x.pl j with
   | true => have:=he.pl j hj hp; omega
   | false =>
    obtain ⟨u1,u2⟩:=h.un j hj hp
    have h0:=he.ok.pos j hj
    refine ⟨?_,by rw [u1]; exact he.wp j⟩
    have hr : rdyD s x j ≤ d j:=by
     unfold rdyD
     split
     ·exact h0
     ·rename_i ha
      obtain ⟨e1,e2⟩:=s.aftc hj ha
      have:=he.ok.ord j _ hj e1
      have:=(ih _ e2).1
      omega
    have ht : wN x j ≤ d j:=by
     unfold wN
     have:=he.un j hj hp
     split
     ·exact h0
     ·rename_i hl
      split <;> omega
    omega
  ·have := h.out j (by omega)
   have:=he.out j (by omega)
   have:=he.wp j
   omega
theorem aBU {n : Nat} (p : Nat → Bool) (d : Nat → Int) : ∀ m,(∃ j,j < m ∧ p j = false) → ∃ k,k < m ∧ p k = false ∧ ∀ j,j < m → p j = false → j = k ∨ Bef d k j
 | 0,⟨j,h,_⟩ => absurd h (Nat.not_lt_zero _)
 | m + 1,⟨j,hj,hp⟩ => by
  by_cases hm : ∃ j,j < m ∧ p j = false
  ·obtain ⟨k,k1,k2,k3⟩:=aBU (n:=n) p d m hm
   cases hpm : p m with
   | true => exact ⟨k, by omega, k2, fun i hi hpi => by
     by_cases e : i = m
     ·subst e; rw [hpm] at hpi; cases hpi
     ·exact k3 i (by omega) hpi⟩
   | false =>
    by_cases hlt : d m < d k
    ·refine ⟨m, by omega, hpm, fun i hi hpi => ?_⟩
     by_cases e : i = m
     ·exact .inl e
     ·refine .inr (.inl ?_)
      rcases k3 i (by omega) hpi with rfl | h5
      ·exact hlt
      ·rcases h5 with h5 | h5 <;> omega
    ·refine ⟨k, by omega, k2, fun i hi hpi => ?_⟩
     by_cases e : i = m
     ·subst e
      refine .inr ?_
      unfold Bef
      omega
     ·exact k3 i (by omega) hpi
  ·refine ⟨j,hj,hp,fun i hi hpi => ?_⟩
   have : ∀ i,i < m + 1 → p i = false → i = m:=fun i hi hpi => by
    by_cases e : i = m
    ·exact e
    ·exact absurd ⟨i,by omega,hpi⟩ hm
   rw [this i hi hpi,this j hj hp]
   exact .inl rfl
theorem Ext.next {s : Shp} {x : Dr} {w d : Nat → Int} (h : DI s x) (he : Ext s x w d) (hun : ∃ j,j < s.n ∧ x.pl j = false) : ∃ k,k < s.n ∧ x.pl k = false ∧ (s.aft k = -1 ∨ x.pl (s.aft k).toNat = true) ∧ s.can k (w k) ∧ max (rdyD s x k) (freD s x (w k)) = d k ∧ x.d k ≤ d k ∧ ∀ y,Adds s x k (w k) (d k) y → Ext s y w d:=by
 obtain ⟨k,hk,hpk,hmin⟩:=aBU (n:=s.n) x.pl d s.n hun
 have hDk:=s.hD k hk
 have h0:=he.ok.pos k hk
 have haft : s.aft k = -1 ∨ x.pl (s.aft k).toNat = true:=by
  by_cases ha : s.aft k = -1
  ·exact .inl ha
  ·obtain ⟨e1,e2⟩:=s.aftc hk ha
   have ho:=he.ok.ord k _ hk e1
   have hDb:=s.hD (s.aft k).toNat (by omega)
   refine .inr ?_
   cases hb : x.pl (s.aft k).toNat with
   | true => rfl
   | false =>
    rcases hmin _ (by omega) hb with e | e
    ·omega
    ·rcases e with e | e <;> omega
 have hplk : ∀ j,j < s.n → x.pl j = true → d j ≤ d k:=by
  intro j hj hp
  obtain ⟨l,l1,l2,l3,l4,l5⟩:=h.lastle hj hp
  have hj2:=(he.pl j hj hp).2
  rcases he.un k hk hpk with e | e
  ·omega
  ·rw [l1,Int.toNat_natCast] at e
   omega
 have hfre : freD s x (w k) ≤ d k:=by
  refine mxN.le _ h0 _ fun j hj => ?_
  split
  ·rename_i hp
   obtain ⟨e1,e2⟩:=he.pl j hj hp.1
   have hne : j ≠ k:=fun e => by subst e; rw [hpk] at hp; cases hp.1
   have:=hplk j hj hp.1
   rcases he.ok.cl j k hj hk hne (by rw [e1]; exact hp.2) with c | c <;> omega
  ·exact h0
 have hrd : rdyD s x k ≤ d k:=by
  unfold rdyD
  split
  ·exact h0
  ·rename_i ha
   obtain ⟨e1,e2⟩:=s.aftc hk ha
   have ho:=he.ok.ord k _ hk e1
   have:=(Ext.low h he (s.aft k).toNat).1
   omega
 have hfp : 0 ≤ freD s x (w k):=mxN.pos _ _
 refine ⟨k,hk,hpk,haft,he.ok.can k hk,?_,(Ext.low h he k).1,fun y hy => ?_⟩
 ·rcases he.tg k hk with e | ⟨b,e1,e2⟩ | ⟨j,hj,j1,j2,j3⟩
  ·omega
  ·have : rdyD s x k = d k:=by
    unfold rdyD
    rw [if_neg (by omega),e1,Int.toNat_natCast]
    rcases haft with ha | ha
    ·omega
    ·rw [e1,Int.toNat_natCast] at ha
     have hb : b < k:=by
      obtain ⟨q1,q2⟩:=s.aftc hk (by omega)
      rw [e1,Int.toNat_natCast] at q2
      exact q2
     rw [← (he.pl b (by omega) ha).2]
     omega
   omega
  ·have hp : x.pl j = true:=by
    cases hp : x.pl j with
    | true => rfl
    | false =>
     rcases hmin j hj hp with e | e
     ·subst e; rcases j2 with j2 | j2 <;> omega
     ·unfold Bef at e j2; omega
   have:=mxN.ge (fun j => if x.pl j = true ∧ x.w j = w k then x.d j + s.D j else 0) s.n j hj
   obtain ⟨e1,e2⟩:=he.pl j hj hp
   simp only [hp,show x.w j = w k by omega,and_self,if_true] at this
   have e : freD s x (w k) = mxN (fun j => if x.pl j = true ∧ x.w j = w k then x.d j + s.D j else 0) s.n:=rfl
   omega
 ·have hyk : y.pl k = true := by rw [hy.pl, if_pos rfl]
  refine ⟨he.ok,he.tg,he.wp,fun j hj hp => ?_,fun j hj hp => ?_,he.out⟩
  ·rw [hy.w,hy.d j hj hp]
   rw [hy.pl] at hp
   by_cases e : j = k
   ·subst e; simp
   ·rw [if_neg e] at hp
    rw [if_neg e,if_neg e]
    exact he.pl j hj hp
  ·rw [hy.pl] at hp
   by_cases e : j = k
   ·subst e; simp at hp
   ·rw [if_neg e] at hp
    refine .inr ?_
    rw [hy.last,Int.toNat_natCast,hy.d k hk hyk,if_pos rfl]
    rcases hmin j hj hp with c | c
    ·exact absurd c e
    ·rcases c with c | c <;> omega
def keyD (s : Shp) (x : Dr) : List Int:=keyP s x.w x.d
theorem Ext.key {s : Shp} {x : Dr} {w d : Nat → Int} (h : DI s x) (he : Ext s x w d) : lxE (keyD s x) (keyP s w d) :=
 leL.lx ⟨mxN.mono _ _ _ fun i hi => by have:=(Ext.low h he i).1; omega,(leL.map _ _ _ fun j hj => (Ext.low h he j).1).app (leL.map _ _ _ fun j hj => (Ext.low h he j).2)⟩
end
section
open Go.RowKit
def dyL (l : List aG) (j : Nat) : Int:=(l[j]?.map (·.Day)).getD 0
def wkL (l : List aG) (j : Nat) : Int:=(l[j]?.map (·.Worker)).getD 0
def dsL (J : List bH) (j : Nat) : Int:=(J[j]?.map (·.Days)).getD 0
def flL (J : List bH) (j : Nat) : Int:=(J[j]?.map (·.Float)).getD 0
def skL (J : List bH) (j : Nat) : Int:=(J[j]?.map (·.Skill)).getD 0
structure GJ (J : List bH) : Prop where
 len : J.length ≤ 7
 all : ∀ x,x ∈ J → 0 ≤ x.Float ∧ x.Float ≤ 6 ∧ 1 ≤ x.Skill ∧ x.Skill ≤ 3 ∧ 1 ≤ x.Days ∧ x.Days ≤ 30
theorem tK {l : List aG} {j : Nat} {x : aG} (h : l[j]? = some x) : dyL l j = x.Day:=by simp [dyL,h]
theorem vF {l : List aG} {j : Nat} {x : aG} (h : l[j]? = some x) : wkL l j = x.Worker:=by simp [wkL,h]
theorem vT {J : List bH} {j : Nat} {x : bH} (h : J[j]? = some x) : dsL J j = x.Days:=by simp [dsL,h]
theorem GJ.ds {J : List bH} (h : GJ J) {j : Nat} (hj : j < J.length) : 1 ≤ dsL J j ∧ dsL J j ≤ 30:=by
 rw [vT (List.getElem?_eq_getElem hj)]
 have:=h.all _ (List.getElem_mem hj)
 omega
theorem ifmax (a b : Int) : (if b > a then b else a) = max a b:=by
 split <;> omega
theorem wT (N : Nat) {J : List bH} (hJ : GJ J) {l : List aG} {j : Nat} (hj : j < J.length) (hl : J.length ≤ l.length) (hb : -1000000 ≤ dyL l j ∧ dyL l j ≤ 1000000) : fW N J l (j : Int) = some (dyL l j + dsL J j):=by
 have h1 : l[j]? = some l[j]:=List.getElem?_eq_getElem (by omega)
 have h2 : J[j]? = some J[j]:=List.getElem?_eq_getElem hj
 have hd:=hJ.ds hj
 rw [tK h1] at hb ⊢
 rw [vT h2] at hd ⊢
 unfold fW
 rw [bX,h1,Option.bind_some,bX,h2,Option.bind_some,w64 (by omega) (by omega)]
theorem aGl (N : Nat) (hN : 100 < N) {J : List bH} (hJ : GJ J) {l : List aG} (hl : J.length ≤ l.length) (hb : ∀ j,j < J.length → -1000000 ≤ dyL l j ∧ dyL l j ≤ 1000000) : jX N J l = some (mxN (fun j => dyL l j + dsL J j) J.length):=by
 unfold jX
 simp only [dJ]
 have hn:=hJ.len
 refine st2z' J.length (fun i => mxN (fun j => dyL l j + dsL J j) i) rfl (by omega) (fun rec => ?_) (fun rec i hi => ?_)
 ·rw [ltE,cond_false]
 ·rw [ltD hi, cond_true, wT N hJ hi hl (hb i hi), Option.bind_some, nadd1 i (by omega), ifmax]
  rfl
def aftF (f : Int) (J : List bH) : Nat → Int
 | 0 => -1
 | k + 1 => if flL J k = f then (k : Int) else aftF f J k
def aftJ (J : List bH) (j : Nat) : Int:=aftF (flL J j) J j
theorem uX (f : Int) (J : List bH) : ∀ k,aftF f J k = -1 ∨ ∃ b : Nat,aftF f J k = (b : Int) ∧ b < k
 | 0 => .inl rfl
 | k + 1 => by
  unfold aftF
  split
  ·exact .inr ⟨k,rfl,by omega⟩
  ·rcases uX f J k with h | ⟨b,h,hb⟩
   ·exact .inl h
   ·exact .inr ⟨b,h,by omega⟩
theorem aBW (N : Nat) (hN : 100 < N) {J : List bH} (hJ : J.length ≤ 7) {j : Nat} (hj : j < J.length) : eX N J (j : Int) = some (aftJ J j):=by
 unfold eX
 simp only [dJ]
 have h2 : J[j]? = some J[j]:=List.getElem?_eq_getElem hj
 have hf : flL J j = J[j].Float:=by simp [flL,h2]
 rw [show getI J (j : Int) = some J[j] from by rw [bX,h2]]
 have key : ∀ (k M : Nat),k ≤ j → k < M → loop1 (fun rec_7 (before_6 : Int) => (bif (decide (before_6 ≥ 0)) then ((getI J before_6).bind fun x_11 => ((some J[j]).bind fun x_12 => (bif (x_11.Float == x_12.Float) then some before_6 else (rec_7 (IntKind.i64.wrap (before_6 - 1)))))) else some (-1))) M ((k : Int) - 1) = some (aftF (flL J j) J k):=by
  intro k
  induction k with
  | zero =>
   intro M _ hM
   cases M with
   | zero => omega
   | succ M => rfl
  | succ k ih =>
   intro M hk hM
   cases M with
   | zero => omega
   | succ M =>
    show cond (decide (((k + 1 : Nat) : Int) - 1 ≥ 0)) _ _ = _
    have e : ((k + 1 : Nat) : Int) - 1 = (k : Int):=by omega
    have h1 : J[k]? = some J[k]:=List.getElem?_eq_getElem (by omega)
    have hfk : flL J k = J[k].Float:=by simp [flL,h1]
    simp only [e]
    rw [decide_eq_true (by omega),cond_true,bX,h1,Option.bind_some,Option.bind_some]
    unfold aftF
    rw [hfk,hf]
    by_cases hc : J[k].Float = J[j].Float
    ·rw [if_pos hc,beq_iff_eq.2 hc,cond_true]
    ·rw [if_neg hc, beq_eq_false_iff_ne.2 hc, cond_false, w64 (by omega) (by omega), ← hf]
     exact ih M (by omega) (by omega)
 rw [w64 (by omega) (by omega)]
 exact key j N (Nat.le_refl _) (by omega)
def canW (x : aX) (sk : Int) : Bool:=if sk = 1 then x.Weld else if sk = 2 then x.Carve else x.Paint
def bitS (sk : Int) : Int:=if sk = 1 then 1 else if sk = 2 then 2 else 4
theorem aBY (N : Nat) (hN : 100 < N) (x : aX) {sk : Int} (h1 : 1 ≤ sk) (h3 : sk ≤ 3) : gV N x (bitS sk) = some (canW x sk):=by
 obtain ⟨M,rfl⟩ : ∃ M,N = M + 10:=⟨N - 10,by omega⟩
 have hs : sk = 1 ∨ sk = 2 ∨ sk = 3:=by omega
 obtain ⟨w,c,p⟩:=x
 rcases hs with rfl | rfl | rfl <;> cases w <;> cases c <;> cases p <;> rfl
theorem aDv {sk : Int} (h1 : 1 ≤ sk) (h3 : sk ≤ 3) : idxI sk 4 = some () ∧ (([0,1,2,4] : List Int)[Int.toNat sk]?) = some (bitS sk):=by
 have hs : sk = 1 ∨ sk = 2 ∨ sk = 3:=by omega
 rcases hs with rfl | rfl | rfl <;> exact ⟨rfl,rfl⟩
def uY (W : List aX) (sk : Int) (i : Nat) : List Int:=((List.range i).filter fun k => (W[k]?.map fun x => canW x sk).getD false).map fun (k : Nat) => (k : Int)
def oW (W : List aX) (sk : Int) : List Int:=uY W sk W.length
theorem aDy (W : List aX) (sk : Int) (i : Nat) (x : aX) (h : W[i]? = some x) : uY W sk (i + 1) = if canW x sk then uY W sk i ++ [(i : Int)] else uY W sk i:=by
 unfold uY
 rw [List.range_succ,List.filter_append,List.map_append]
 cases hc : canW x sk <;> simp [h,hc]
theorem aEK (W : List aX) (sk : Int) (i : Nat) : (uY W sk i).length ≤ i:=by
 unfold uY
 rw [List.length_map]
 exact Nat.le_trans (List.length_filter_le _ _) (by simp)
theorem zJ (N : Nat) (hN : 100 < N) (s : aH) (hW : s.Workers.length ≤ 4) {sk : Int} (h1 : 1 ≤ sk) (h3 : sk ≤ 3) : cA N s (bitS sk) = some (oW s.Workers sk):=by
 unfold cA
 simp only [dJ]
 refine st2z' s.Workers.length (fun i => uY s.Workers sk i) rfl (by omega) (fun rec => ?_) (fun rec i hi => ?_)
 ·rw [ltE,cond_false]; rfl
 ·have hx : s.Workers[i]? = some s.Workers[i]:=List.getElem?_eq_getElem hi
  rw [ltD hi,cond_true,bX,hx,Option.bind_some,aBY N hN _ h1 h3,Option.bind_some,nadd1 i (by omega),aDy _ _ _ _ hx]
  have:=aEK s.Workers sk i
  cases hc : canW s.Workers[i] sk with
  | true => rw [cond_true,hZ (by simp; omega),Option.bind_some]; rfl
  | false => rw [cond_false]; rfl
theorem yE {W : List aX} {sk : Int} {w : Int} : w ∈ oW W sk ↔ ∃ (k : Nat) (x : aX),w = (k : Int) ∧ W[k]? = some x ∧ canW x sk = true:=by
 unfold oW uY
 simp only [List.mem_map,List.mem_filter,List.mem_range]
 constructor
 ·rintro ⟨k,⟨hk,hc⟩,rfl⟩
  have hx : W[k]? = some W[k]:=List.getElem?_eq_getElem hk
  rw [hx] at hc
  exact ⟨k,W[k],rfl,hx,hc⟩
 ·rintro ⟨k,x,rfl,hx,hc⟩
  exact ⟨k,⟨(List.getElem?_eq_some_iff.1 hx).1,by rw [hx]; exact hc⟩,rfl⟩
def lG (s : aH) (hJ : GJ s.Jobs) : Shp:=⟨s.Jobs.length,dsL s.Jobs,aftJ s.Jobs,fun j w => w ∈ oW s.Workers (skL s.Jobs j),fun j hj => (hJ.ds hj).1,fun j hj => uX _ _ j⟩
structure Plr (s : aH) (p : aZ) : Prop where
 jobs : p.jobs_ = s.Jobs
 able : ∀ j,j < s.Jobs.length → p.able_[j]? = some (oW s.Workers (skL s.Jobs j))
 after : ∀ j,j < s.Jobs.length → p.after_[j]? = some (aftJ s.Jobs j)
end
section
open Go.RowKit
def mkDr (pl : List Bool) (l : List aG) (last : Int) : Dr:=⟨fun j => (pl[j]?).getD false,wkL l,dyL l,last⟩
def toD (d : aL) : Dr:=mkDr d.planned_.l d.shifts_.l d.last_
structure Bd (s : aH) (l : List aG) (last : Int) : Prop where
 len : l.length = 7
 day : ∀ j,0 ≤ dyL l j ∧ dyL l j ≤ 100000
 last : last = -1 ∨ ∃ k : Nat,last = (k : Int) ∧ k < s.Jobs.length
structure aIe (s : aH) (S : Shp) (pl : List Bool) (last : Int) (l0 l : List aG) (i : Nat) : Prop where
 len : l.length = 7
 w : ∀ j,wkL l j = wkL l0 j
 old : ∀ j,i ≤ j ∨ (pl[j]?).getD false = true → dyL l j = dyL l0 j
 new : ∀ j,j < i → (pl[j]?).getD false = false → dyL l j = max (rdyD S (mkDr pl l last) j) (wN (mkDr pl l0 last) j)
 bd : ∀ j,j < i → 0 ≤ dyL l j ∧ dyL l j ≤ 1000 + 100 * (j : Int)
end
section
open Go.RowKit
def cntD (s : aH) (x : Dr) : Int:=smN (fun j => if x.pl j = true then 1 else 0) s.Jobs.length
structure GD (s : aH) (hJ : GJ s.Jobs) (d : aL) : Prop where
 di : DI (lG s hJ) (toD d)
 many : d.many_ = cntD s (toD d)
 days : d.days_ = mxN (fun j => dyL d.shifts_.l j + dsL s.Jobs j) s.Jobs.length
 bd : ∀ j,0 ≤ dyL d.shifts_.l j ∧ dyL d.shifts_.l j ≤ 10000
theorem GD.add {s : aH} {hJ : GJ s.Jobs} {d y : aL} (h : GD s hJ d) {k : Nat} (hk : k < s.Jobs.length) (hpk : (toD d).pl k = false) (hwait : aftJ s.Jobs k = -1 ∨ (toD d).pl (aftJ s.Jobs k).toNat = true) {w day : Int} (hcan : w ∈ oW s.Workers (skL s.Jobs k)) (hday : day = max (rdyD (lG s hJ) (toD d) k) (freD (lG s hJ) (toD d) w)) (hge : dyL d.shifts_.l k ≤ day) (hy : Adds (lG s hJ) (toD d) k w day (toD y)) (hm : y.many_ = d.many_ + 1) (hd : y.days_ = mxN (fun j => dyL y.shifts_.l j + dsL s.Jobs j) s.Jobs.length) (hb : ∀ j,0 ≤ dyL y.shifts_.l j ∧ dyL y.shifts_.l j ≤ 10000) : GD s hJ y:=by
 refine ⟨h.di.add hk hpk hwait hcan hday hge hy,?_,hd,hb⟩
 rw [hm,h.many]
 unfold cntD
 rw [smN.one (fun j => if (toD y).pl j = true then 1 else 0) (fun j => if (toD d).pl j = true then 1 else 0) s.Jobs.length k hk (fun i hi hne => by rw [hy.pl,if_neg hne])]
 rw [hy.pl,if_pos rfl,hpk]
 simp
def keyT (d : aL) : List Int:=d.days_ :: (d.shifts_.l.map (·.Day) ++ d.shifts_.l.map (·.Worker))
theorem range7 (l : List aG) (h : l.length = 7) : (List.range 7).map (dyL l) = l.map (·.Day) ∧ (List.range 7).map (wkL l) = l.map (·.Worker):=by
 match l,h with
 | [a,b,c,d,e,f,g],_ => exact ⟨rfl,rfl⟩
theorem GD.key {s : aH} {hJ : GJ s.Jobs} {d : aL} (h : GD s hJ d) : keyT d = keyD (lG s hJ) (toD d):=by
 unfold keyT keyD keyP
 obtain ⟨r1,r2⟩:=range7 d.shifts_.l rfl
 rw [h.days,← r1,← r2]
 rfl
end
section
open Go.RowKit
section
variable {s : aH} (hJ : GJ s.Jobs)
def GS (z : aL) (b : Bool) : Prop:=b = true → GD s hJ z ∧ ∀ j,j < s.Jobs.length → (toD z).pl j = true
def Cov (z : aL) (b : Bool) (w dd : Nat → Int) : Prop:=b = true ∧ lxE (keyT z) (keyP (lG s hJ) w dd)
structure ResS (z : aL) (b : Bool) (v : aL × Bool) : Prop where
 gs : GS hJ v.1 v.2
 mono : ∀ w dd,Cov hJ z b w dd → Cov hJ v.1 v.2 w dd
end
theorem Ext.keyT {s : aH} {hJ : GJ s.Jobs} {d : aL} (h : GD s hJ d) {w dd : Nat → Int} (he : Ext (lG s hJ) (toD d) w dd) : lxE (keyT d) (keyP (lG s hJ) w dd):=by
 rw [h.key]; exact Ext.key h.di he
theorem DI.begin {s : aH} (hJ : GJ s.Jobs) {x : Dr} (hl : x.last = -1) (hp : ∀ j,x.pl j = false) (hw : ∀ j,x.w j = 0) (hd : ∀ j,j < s.Jobs.length → x.d j = max (rdyD (lG s hJ) x j) (wN x j)) (ho : ∀ j,s.Jobs.length ≤ j → x.d j = 0) : DI (lG s hJ) x :=
 ⟨fun j _ h => (by rw [hp] at h; cases h),fun j _ h => (by rw [hp] at h; cases h),fun j k _ _ _ h => (by rw [hp] at h; cases h),.inl ⟨hl,fun j _ => hp j⟩,fun j hj _ => ⟨hw j,hd j hj⟩,fun j hj => ⟨hw j,ho j hj⟩,fun j _ h => (by rw [hp] at h; cases h)⟩
end
section
open Go.RowKit
structure GW (s : aH) : Prop where
 jobs : GJ s.Jobs
 w0 : 0 < s.Workers.length
 w4 : s.Workers.length ≤ 4
theorem gU (N : Nat) (n a b : Int) : dZ N n a b = some (decide (a ≤ n ∧ n ≤ b)):=by
 unfold dZ
 by_cases h : n ≥ a
 ·rw [decide_eq_true h,cond_true]
  congr 1
  exact decide_eq_decide.2 ⟨fun h2 => ⟨h,h2⟩,fun h2 => h2.2⟩
 ·rw [decide_eq_false h,cond_false,decide_eq_false (fun h2 => h h2.1)]
theorem chkL {n : Nat} (Q : Nat → Prop) (E : Int → Prop) {K : Option Int} {body : (Int → Option Int) → Int → Option Int} (hend : ∀ rec,body rec (n : Int) = K) (hstep : ∀ rec (i : Nat),i < n → (¬ Q i ∧ ∃ e,E e ∧ body rec (i : Int) = some e) ∨ (Q i ∧ body rec (i : Int) = rec ((i + 1 : Nat) : Int))) : ∀ (N i : Nat),i ≤ n → n - i < N → (¬ (∀ j,i ≤ j → j < n → Q j) ∧ ∃ e,E e ∧ loop1 body N (i : Int) = some e) ∨ ((∀ j,i ≤ j → j < n → Q j) ∧ loop1 body N (i : Int) = K)
 | 0,_,_,h => absurd h (Nat.not_lt_zero _)
 | N + 1,i,hi,h => by
  show (_ ∧ ∃ e,E e ∧ body (loop1 body N) (i : Int) = some e) ∨ (_ ∧ body (loop1 body N) (i : Int) = K)
  by_cases hlt : i < n
  ·rcases hstep (loop1 body N) i hlt with ⟨h1,h2⟩ | ⟨h1,h2⟩
   ·exact .inl ⟨fun hq => h1 (hq i (Nat.le_refl _) hlt),h2⟩
   ·rw [h2]
    rcases chkL Q E hend hstep N (i + 1) (by omega) (by omega) with ⟨k1,k2⟩ | ⟨k1,k2⟩
    ·exact .inl ⟨fun hq => k1 fun j hj hj2 => hq j (by omega) hj2,k2⟩
    ·refine .inr ⟨fun j hj hj2 => ?_,k2⟩
     by_cases e : j = i
     ·subst e; exact h1
     ·exact k1 j (by omega) hj2
  ·have : i = n := by omega
   subst this
   exact .inr ⟨fun j h1 h2 => absurd h2 (by omega),hend _⟩
theorem chkZ {n : Nat} (Q : Nat → Prop) (E : Int → Prop) {K : Option Int} {body : (Int → Option Int) → Int → Option Int} {N : Nat} (hN : n < N) (hend : ∀ rec,body rec (n : Int) = K) (hstep : ∀ rec (i : Nat),i < n → (¬ Q i ∧ ∃ e,E e ∧ body rec (i : Int) = some e) ∨ (Q i ∧ body rec (i : Int) = rec ((i + 1 : Nat) : Int))) : (¬ (∀ j,j < n → Q j) ∧ ∃ e,E e ∧ loop1 body N 0 = some e) ∨ ((∀ j,j < n → Q j) ∧ loop1 body N 0 = K):=by
 rcases chkL Q E hend hstep N 0 (Nat.zero_le _) (by omega) with ⟨h1,h2⟩ | ⟨h1,h2⟩
 ·exact .inl ⟨fun h => h1 fun j _ => h j,h2⟩
 ·exact .inr ⟨fun j => h1 j (Nat.zero_le _),h2⟩
theorem aGM (N : Nat) (hN : 100 < N) {s : aH} (h : GW s) : eN N s = some 0:=by
 unfold eN
 have:=h.w0
 have:=h.w4
 have hn:=h.jobs.len
 simp only [dJ]
 rw [beq_eq_false_iff_ne.2 (show ((s.Workers.length : Nat) : Int) ≠ 0 by omega),cond_false,decide_eq_false (show ¬ ((s.Workers.length : Nat) : Int) > 4 by omega),cond_false,decide_eq_false (show ¬ ((s.Jobs.length : Nat) : Int) > 7 by omega),cond_false]
 refine st1 s.Jobs.length _ (some 0) (fun rec => ?_) (fun rec i hi => ?_) N 0 (Nat.zero_le _) (by omega)
 ·rw [ltE,cond_false]
 ·have hx : s.Jobs[i]? = some s.Jobs[i]:=List.getElem?_eq_getElem hi
  have ha:=h.jobs.all _ (List.getElem_mem hi)
  generalize s.Jobs[i] = x at hx ha
  have e : fJ N x = some 0:=by
   unfold fJ
   rw [gU,Option.bind_some,decide_eq_true (by omega),Bool.not_true,cond_false,gU,Option.bind_some,decide_eq_true (by omega),Bool.not_true,cond_false,gU,Option.bind_some,decide_eq_true (by omega)]
   rfl
  rw [ltD hi,cond_true,bX,hx,Option.bind_some,e,Option.bind_some,nadd1 i (by omega)]
  rfl
def nZ (s : aH) : Prop:=∀ j,j < s.Jobs.length → oW s.Workers (skL s.Jobs j) ≠ []
theorem aEU (N : Nat) (hN : 100 < N) {s : aH} (h : GW s) : (¬ nZ s ∧ cX N s = some 7) ∨ (nZ s ∧ cX N s = some 0):=by
 unfold cX
 have hn:=h.jobs.len
 rw [aGM N hN h,Option.bind_some]
 simp only [dJ]
 rw [show ((0 : Int) != 0) = false from rfl,cond_false]
 refine (chkZ (n:=s.Jobs.length) (fun j => oW s.Workers (skL s.Jobs j) ≠ []) (fun e => e = 7) (by omega) (fun rec => ?_) (fun rec i hlt => ?_)).imp (fun ⟨h1,e,h2,h3⟩ => ⟨h1,h2 ▸ h3⟩) id
 ·rw [ltE,cond_false]
 ·have hx : s.Jobs[i]? = some s.Jobs[i]:=List.getElem?_eq_getElem hlt
  have hs : skL s.Jobs i = s.Jobs[i].Skill:=by simp [skL,hx]
  have ha:=h.jobs.all _ (List.getElem_mem hlt)
  obtain ⟨b1,b2⟩:=aDv (sk:=s.Jobs[i].Skill) (by omega) (by omega)
  rw [ltD hlt,cond_true,bX,hx,Option.bind_some,b1,Option.bind_some,b2,Option.bind_some,zJ N hN s h.w4 (by omega) (by omega),Option.bind_some,nadd1 i (by omega),hs]
  by_cases hn : oW s.Workers s.Jobs[i].Skill = []
  ·rw [hn]; exact .inl ⟨fun h => h rfl,7,rfl,rfl⟩
  ·rw [beq_eq_false_iff_ne.2,cond_false]
   ·exact .inr ⟨hn,rfl⟩
   ·have:=List.length_pos_iff.2 hn
    omega
structure aHb (s : aH) (hJ : GJ s.Jobs) (l : List aG) (d : Int) : Prop where
 len : l.length = s.Jobs.length
 ok : Okp (lG s hJ) (wkL l) (dyL l)
 days : d = mxN (fun j => dyL l j + dsL s.Jobs j) s.Jobs.length
 small : ∀ j,j < s.Jobs.length → dyL l j + dsL s.Jobs j ≤ smN (dsL s.Jobs) s.Jobs.length
 min : ∀ w dd,Okp (lG s hJ) w dd → (∀ j,0 ≤ w j) → (∀ j,s.Jobs.length ≤ j → dd j = 0) → lxE (keyP (lG s hJ) (wkL l) (dyL l)) (keyP (lG s hJ) w dd)
end
section
open Go.RowKit
theorem aGV (N : Nat) (d : aR) : ∃ y d',gX N d = some (y,d') ∧ 0 ≤ y ∧ y < 2 ^ 64:=by
 refine ⟨_,_,rfl,?_⟩
 exact wu64 _
theorem vJ (N : Nat) (d : aR) (n : Int) (hn : n < 9223372036854775808) : ∃ r d',cK N d n = some (r,d') ∧ 0 ≤ r ∧ (n < 2 → r = 0) ∧ (2 ≤ n → r < n):=by
 unfold cK
 by_cases h2 : n < 2
 ·simp only [h2,decide_true,cond_true]
  exact ⟨0,d,rfl,by omega,fun _ => rfl,fun h => by omega⟩
 ·simp only [h2,decide_false,cond_false]
  obtain ⟨y,d',hy,h0,h1⟩:=aGV N d
  have hu : IntKind.u64.wrap n = n:=aFS (by omega) (by omega)
  have hnz : n ≠ 0:=by omega
  rw [hy,hu]
  simp only [Option.bind_some,nzI,hnz,if_false]
  have hsh : Int.fdiv y ((2 : Int) ^ (min (Int.toNat 1) (IntKind.bits .u64))) = y / 2:=by
   have : (2 : Int) ^ (min (Int.toNat 1) (IntKind.bits .u64)) = 2:=rfl
   rw [this,Int.fdiv_eq_ediv_of_nonneg _ (by omega)]
  rw [hsh]
  have hd0 : 0 ≤ y / 2:=by omega
  have hm : Int.tmod (y / 2) n = (y / 2) % n:=Int.tmod_eq_emod_of_nonneg hd0
  have hm0 : 0 ≤ (y / 2) % n:=Int.emod_nonneg _ hnz
  have hm1 : (y / 2) % n < n:=Int.emod_lt_of_pos _ (by omega)
  rw [hm,w64 (x:=y / 2 % n) (by omega) (by omega)]
  exact ⟨_,d',rfl,hm0,fun h => False.elim h,fun _ => hm1⟩
theorem aHY (N : Nat) (d : aR) (l : List Int) (hl : l ≠ []) (hlen : l.length < 1000) : ∃ r d',iY N d l = some (r,d') ∧ r ∈ l:=by
 unfold iY
 have hpos : 0 < l.length:=List.length_pos_iff.2 hl
 have hb : (((l.length : Nat) : Int) == 0) = false:=by simp; omega
 rw [hb,cond_false]
 obtain ⟨r,d',h1,h2,h3,h4⟩:=vJ N d ((l.length : Nat) : Int) (by omega)
 rw [h1]
 simp only [Option.bind_some]
 have hr : r < (l.length : Int):=by
  by_cases h : (l.length : Int) < 2
  ·rw [h3 h]; omega
  ·exact h4 (by omega)
 obtain ⟨x,e1,_,e3⟩:=aDW h2 hr
 rw [e1]
 exact ⟨x,d',rfl,e3⟩
theorem aFb (N : Nat) (d : aR) (lo hi : Int) (h0 : -4611686018427387904 ≤ lo) (h1 : lo ≤ 4611686018427387903) (h2 : -4611686018427387904 ≤ hi) (h3 : hi ≤ 4611686018427387902) : ∃ r d',eA N d lo hi = some (r,d') ∧ lo ≤ r ∧ (lo ≤ hi → r ≤ hi) ∧ (hi < lo → r = lo):=by
 unfold eA
 rw [w64 (x:=hi - lo) (by omega) (by omega)]
 by_cases hc : hi - lo + 1 < 9223372036854775808
 ·rw [w64 (x := hi - lo + 1) (by omega) hc]
  obtain ⟨r,d',e1,e2,e3,e4⟩:=vJ N d (hi - lo + 1) hc
  rw [e1]
  simp only [Option.bind_some]
  have hr : r ≤ hi - lo ∨ r = 0:=by
   by_cases h : hi - lo + 1 < 2
   ·exact .inr (e3 h)
   ·have:=e4 (by omega); exact .inl (by omega)
  rw [w64 (by omega) (by omega)]
  exact ⟨_, d', rfl, by omega, fun h => by omega, fun h => by
   have:=e3 (by omega)
   omega⟩
 ·omega
theorem aCb (N : Nat) (l : List Int) (rec : Int → Int → Option aR) (i q : Int) (h : i < 9223372036854775807) (h0 : 0 ≤ i) (ih : ∀ b',∃ d,rec (i + 1) b' = some d) : ∃ d,((gX N (⟨q⟩ : aR)).bind fun r_14 => (rec (IntKind.i64.wrap (i + 1)) r_14.2.beat_)) = some d:=by
 obtain ⟨y,d',g1,_,_⟩:=aGV N ⟨q⟩
 rw [g1,w64 (x:=i + 1) (by omega) (by omega)]
 exact ih _
theorem aFv (N : Nat) (l : List Int) (hN : l.length < N) (hl : l.length < 9223372036854775808) : ∃ d,lN N l = some d:=by
 unfold lN
 rw [dJ]
 refine aDQ (fun x => ∃ d,x = some d) (fun i b => 0 ≤ i ∧ i ≤ (l.length : Int)) (fun i b => l.length - i.toNat) ?_ N 0 _ ⟨by omega,by omega⟩ (by simpa using hN)
 rintro rec i b ⟨h0,h1⟩ ih
 by_cases hc : i < (l.length : Int)
 ·rw [show decide (i < ((l.length : Nat) : Int)) = true from decide_eq_true hc,cond_true]
  obtain ⟨x,e1,_,_⟩:=aDW h0 hc
  rw [e1,Option.bind_some,Option.bind_some]
  exact aCb N l rec i _ (by omega) h0 fun b' => ih _ _ ⟨by omega,by omega⟩ (by omega)
 ·rw [show decide (i < ((l.length : Nat) : Int)) = false from decide_eq_false hc,cond_false]
  exact ⟨_,rfl⟩
theorem aDK (N : Nat) (d : aR) (n : Int) (h1 : 1 ≤ n) (hn : n < 9223372036854775808) : ∃ r d',cK N d n = some (r,d') ∧ 0 ≤ r ∧ r < n:=by
 obtain ⟨r,d',e,h0,h2,h3⟩:=vJ N d n hn
 refine ⟨r,d',e,h0,?_⟩
 by_cases h : n < 2
 ·rw [h2 h]; omega
 ·exact h3 (by omega)
end
section
open Go.RowKit
theorem aAK (N : Nat) (d : aR) (n : Int) (hn : n < 9223372036854775808) : ∃ r d',dM N d n = some (r,d'):=by
 unfold dM
 obtain ⟨r,d',e,_⟩:=vJ N d n hn
 rw [e,Option.bind_some]
 exact ⟨_,_,rfl⟩
structure Made (s : aH) (w j k : Int) : Prop where
 gw : GW s
 w : (s.Workers.length : Int) ≤ w
 j : (s.Jobs.length : Int) ≤ j
 k : ∀ x,x ∈ s.Jobs → x.Days ≤ k
 f : ∀ x,x ∈ s.Jobs → x.Float ≤ 2
theorem aEV (N : Nat) (hN : 100 < N) (d : aR) (w j k : Int) (hw : 1 ≤ w ∧ w ≤ 4) (hj : 0 ≤ j ∧ j ≤ 7) (hk : 1 ≤ k ∧ k ≤ 30) : ∃ s d',lL N d w j k = some (s,d') ∧ Made s w j k:=by
 unfold lL
 simp only [dJ]
 obtain ⟨n,d1,e1,n1,n2,_⟩:=aFb N d 1 w (by omega) (by omega) (by omega) (by omega)
 have n2:=n2 hw.1
 rw [e1,Option.bind_some,w64 (x:=j + 1) (by omega) (by omega)]
 refine aAO (fun r => ∃ s d',r = some (s,d') ∧ Made s w j k) (fun (i b : Int) (l : List aX) => 0 ≤ i ∧ (l.length : Int) + i = n) (fun i b l => i.toNat) ?_ N _ _ _ ⟨by show 0 ≤ n; omega,by simp⟩ (by show n.toNat < N; omega)
 rintro rec i b l ⟨hi,hl⟩ ih
 by_cases h0 : i > 0
 ·rw [decide_eq_true h0,cond_true]
  obtain ⟨r1,q1,a1⟩:=aAK N ⟨b⟩ 3 (by omega)
  obtain ⟨r2,q2,a2⟩:=aAK N q1 3 (by omega)
  obtain ⟨r3,q3,a3⟩:=aAK N q2 3 (by omega)
  rw [a1,Option.bind_some,a2,Option.bind_some,a3,Option.bind_some,hZ (by simp; omega),Option.bind_some,w64 (by omega) (by omega)]
  exact ih _ _ _ ⟨by omega,by simp; omega⟩ (by omega)
 ·rw [decide_eq_false h0,cond_false]
  obtain ⟨m,d2,e2,m1,m2⟩:=aDK N ⟨b⟩ (j + 1) (by omega) (by omega)
  rw [e2,Option.bind_some]
  have hlw : (l.length : Int) = n:=by omega
  refine aAO (fun r => ∃ s d',r = some (s,d') ∧ Made s w j k) (fun (i b : Int) (J : List bH) => 0 ≤ i ∧ (J.length : Int) + i = m ∧ ∀ x,x ∈ J → (0 ≤ x.Float ∧ x.Float ≤ 6 ∧ 1 ≤ x.Skill ∧ x.Skill ≤ 3 ∧ 1 ≤ x.Days ∧ x.Days ≤ 30) ∧ x.Days ≤ k ∧ x.Float ≤ 2) (fun i b J => i.toNat) ?_ N _ _ _ ⟨m1,by simp,fun x hx => by simp at hx⟩ (by show m.toNat < N; omega)
  rintro rec2 i2 b2 J ⟨hi2,hJl,hJ⟩ ih2
  by_cases h2 : i2 > 0
  ·rw [decide_eq_true h2,cond_true]
   obtain ⟨x1,q1,a1,b1,c1⟩:=aDK N ⟨b2⟩ 3 (by omega) (by omega)
   obtain ⟨x2,q2,a2,b2',c2,_⟩:=aFb N q1 1 3 (by omega) (by omega) (by omega) (by omega)
   have c2:=c2 (by omega)
   obtain ⟨x3,q3,a3,b3,c3,_⟩:=aFb N q2 1 k (by omega) (by omega) (by omega) (by omega)
   have c3:=c3 hk.1
   rw [a1,Option.bind_some,a2,Option.bind_some,a3,Option.bind_some,hZ (by simp; omega),Option.bind_some,w64 (by omega) (by omega)]
   refine ih2 _ _ _ ⟨by omega,by simp; omega,fun x hx => ?_⟩ (by omega)
   rcases List.mem_append.1 hx with hx | hx
   ·exact hJ x hx
   ·rw [List.mem_singleton] at hx
    subst hx
    exact ⟨⟨by show 0 ≤ x1; omega,by show x1 ≤ 6; omega,b2',c2,b3,by show x3 ≤ 30; omega⟩,c3,by show x1 ≤ 2; omega⟩
  ·rw [decide_eq_false h2,cond_false]
   exact ⟨_,_,rfl,⟨⟨by show J.length ≤ 7; omega,fun x hx => (hJ x hx).1⟩,by show 0 < l.length; omega,by show l.length ≤ 4; omega⟩,by show (l.length : Int) ≤ w; omega,by show (J.length : Int) ≤ j; omega,fun x hx => (hJ x hx).2.1,fun x hx => (hJ x hx).2.2⟩
structure aGE (s : aH) (l : List aG) (j : Nat) : Prop where
 can : wkL l j ∈ oW s.Workers (skL s.Jobs j)
 day : 0 ≤ dyL l j ∧ dyL l j ≤ 400
 ord : aftJ s.Jobs j = -1 ∨ dyL l (aftJ s.Jobs j).toNat + dsL s.Jobs (aftJ s.Jobs j).toNat ≤ dyL l j
def aHa (s : aH) (l : List aG) (a b : Nat) : Prop:=wkL l a = wkL l b ∧ dyL l a < dyL l b + dsL s.Jobs b ∧ dyL l b < dyL l a + dsL s.Jobs a
structure wJ (s : aH) (l : List aG) : Prop where
 len : l.length = s.Jobs.length
 sh : ∀ j,j < s.Jobs.length → aGE s l j
 cl : ∀ j,j < s.Jobs.length → ∀ k,k < j → ¬ aHa s l j k
theorem wJ.okp {s : aH} (h : GW s) {l : List aG} (hp : wJ s l) : Okp (lG s h.jobs) (wkL l) (dyL l):=by
 refine ⟨fun j hj => (hp.sh j hj).can,fun j hj => (hp.sh j hj).day.1,fun j b hj hb => ?_,fun j k hj hk hne hw => ?_⟩
 ·have hb : aftJ s.Jobs j = (b : Int):=hb
  rcases (hp.sh j hj).ord with e | e
  ·omega
  ·rw [hb,Int.toNat_natCast] at e; exact e
 ·have key : ∀ j k,j < s.Jobs.length → k < j → wkL l j = wkL l k → dyL l j + dsL s.Jobs j ≤ dyL l k ∨ dyL l k + dsL s.Jobs k ≤ dyL l j:=by
   intro j k hj hk hw
   have:=hp.cl j hj k hk
   unfold aHa at this
   by_cases c : dyL l j < dyL l k + dsL s.Jobs k
   ·by_cases c2 : dyL l k < dyL l j + dsL s.Jobs j
    ·exact absurd ⟨hw,c,c2⟩ this
    ·exact .inl (by omega)
   ·exact .inr (by omega)
  by_cases c : k < j
  ·exact key j k hj c hw
  ·exact (key k j hk (by omega) hw.symm).symm
theorem wJ.of {s : aH} (h : GW s) {l : List aG} (hl : l.length = s.Jobs.length) (hok : Okp (lG s h.jobs) (wkL l) (dyL l)) (h4 : ∀ j,j < s.Jobs.length → dyL l j ≤ 400) : wJ s l:=by
 refine ⟨hl,fun j hj => ⟨hok.can j hj,⟨hok.pos j hj,h4 j hj⟩,?_⟩,fun j hj k hk => ?_⟩
 ·by_cases e : aftJ s.Jobs j = -1
  ·exact .inl e
  ·rcases uX (flL s.Jobs j) s.Jobs j with e2 | ⟨b,e2,hb⟩
   ·exact absurd e2 e
   ·have e2 : aftJ s.Jobs j = (b : Int):=e2
    rw [e2,Int.toNat_natCast]
    exact .inr (hok.ord j b hj e2)
 ·rintro ⟨c1,c2,c3⟩
  have c:=hok.cl j k hj (by show k < s.Jobs.length; omega) (by omega) c1
  rcases c with c | c
  ·have c : dyL l j + dsL s.Jobs j ≤ dyL l k:=c
   omega
  ·have c : dyL l k + dsL s.Jobs k ≤ dyL l j:=c
   omega
end
section
open Go.RowKit
theorem smN.add (f g : Nat → Int) : ∀ n,smN (fun j => f j + g j) n = smN f n + smN g n
 | 0 => rfl
 | n + 1 => by rw [smN,smN,smN,smN.add f g n]; omega
theorem smN.zero (f : Nat → Int) : ∀ n,(∀ j,j < n → f j = 0) → smN f n = 0
 | 0,_ => rfl
 | n + 1,h => by rw [smN,smN.zero f n (fun j hj => h j (by omega)),h n (by omega)]; rfl
def sumF (J : List bH) (f : Int) : Nat → Int:=smN fun j => if flL J j = f then dsL J j else 0
theorem aDg (N : Nat) (hN : 100 < N) {J : List bH} (hJ : GJ J) (f : Int) : bW N J f = some (sumF J f J.length):=by
 unfold bW
 simp only [dJ]
 have hn:=hJ.len
 have hbd : ∀ i,i ≤ J.length → 0 ≤ sumF J f i ∧ sumF J f i ≤ 30 * (i : Int):=by
  intro i
  induction i with
  | zero => intro _; exact ⟨Int.le_refl _,Int.le_refl _⟩
  | succ i ih =>
   intro hi
   have:=ih (by omega)
   have:=hJ.ds (j:=i) (by omega)
   have e : sumF J f (i + 1) = sumF J f i + (if flL J i = f then dsL J i else 0):=rfl
   rw [e]
   split <;> omega
 refine st2z' J.length (fun i => sumF J f i) rfl (by omega) (fun rec => ?_) (fun rec i hi => ?_)
 ·rw [ltE,cond_false]
 ·have hx : J[i]? = some J[i]:=List.getElem?_eq_getElem hi
  have hd:=vT hx
  have hf : flL J i = J[i].Float:=by simp [flL,hx]
  have hb:=hbd i (by omega)
  have hb2:=hJ.ds hi
  rw [hd] at hb2
  rw [ltD hi,cond_true,bX,hx,Option.bind_some]
  unfold fG
  rw [Option.bind_some,nadd1 i (by omega)]
  show _ = rec (sumF J f i + (if flL J i = f then dsL J i else 0)) _
  rw [hd,hf]
  by_cases hc : J[i].Float = f
  ·rw [beq_iff_eq.2 hc,cond_true,if_pos hc,w64 (by omega) (by omega)]
  ·rw [beq_eq_false_iff_ne.2 hc,cond_false,if_neg hc,Int.add_zero]
theorem yF (N : Nat) (hN : 100 < N) {s : aH} (hJ : GJ s.Jobs) : eK N s = some (mxN (fun f => sumF s.Jobs (f : Int) s.Jobs.length) 7):=by
 unfold eK
 simp only [dJ]
 refine st2z' 7 (fun i => mxN (fun f => sumF s.Jobs (f : Int) s.Jobs.length) i) rfl (by omega) (fun rec => ?_) (fun rec i hi => ?_)
 ·rfl
 ·rw [decide_eq_true (show ((i : Nat) : Int) < 7 by omega), cond_true, aDg N hN hJ, Option.bind_some, nadd1 i (by omega), ifmax]
  rfl
def anyW (x : aX) (m : Nat) : Bool:=(x.Weld && m.testBit 0) || ((x.Carve && m.testBit 1) || (x.Paint && m.testBit 2))
def inM (sk : Int) (m : Nat) : Bool:=m.testBit (sk.toNat - 1)
theorem aFj (N : Nat) (hN : 100 < N) (x : aX) {m : Nat} (h1 : 1 ≤ m) (h7 : m ≤ 7) : gV N x (m : Int) = some (anyW x m):=by
 obtain ⟨M,rfl⟩ : ∃ M,N = M + 10:=⟨N - 10,by omega⟩
 have hs : m = 1 ∨ m = 2 ∨ m = 3 ∨ m = 4 ∨ m = 5 ∨ m = 6 ∨ m = 7:=by omega
 obtain ⟨w,c,p⟩:=x
 rcases hs with rfl | rfl | rfl | rfl | rfl | rfl | rfl <;> cases w <;> cases c <;> cases p <;> rfl
theorem in_c (N : Nat) (y : bH) (hy : 1 ≤ y.Skill ∧ y.Skill ≤ 3) {m : Nat} (h1 : 1 ≤ m) (h7 : m ≤ 7) : dL N y (m : Int) = some (inM y.Skill m):=by
 obtain ⟨b1,b2⟩:=aDv hy.1 hy.2
 unfold dL
 rw [b1,Option.bind_some,b2,Option.bind_some]
 have hs : m = 1 ∨ m = 2 ∨ m = 3 ∨ m = 4 ∨ m = 5 ∨ m = 6 ∨ m = 7:=by omega
 have hk : y.Skill = 1 ∨ y.Skill = 2 ∨ y.Skill = 3:=by omega
 generalize y.Skill = k at hk
 rcases hs with rfl | rfl | rfl | rfl | rfl | rfl | rfl <;> rcases hk with rfl | rfl | rfl <;> rfl
def eQ (W : List aX) (m : Nat) (i : Nat) : List Int:=((List.range i).filter fun k => (W[k]?.map fun x => anyW x m).getD false).map fun (k : Nat) => (k : Int)
theorem wS (W : List aX) (m : Nat) (i : Nat) (x : aX) (h : W[i]? = some x) : eQ W m (i + 1) = if anyW x m then eQ W m i ++ [(i : Int)] else eQ W m i:=by
 unfold eQ
 rw [List.range_succ,List.filter_append,List.map_append]
 cases hc : anyW x m <;> simp [h,hc]
theorem pO (W : List aX) (m : Nat) (i : Nat) : (eQ W m i).length ≤ i:=by
 unfold eQ
 rw [List.length_map]
 exact Nat.le_trans (List.length_filter_le _ _) (by simp)
theorem aGp (N : Nat) (hN : 100 < N) (s : aH) (hW : s.Workers.length ≤ 4) {m : Nat} (h1 : 1 ≤ m) (h7 : m ≤ 7) : cA N s (m : Int) = some (eQ s.Workers m s.Workers.length):=by
 unfold cA
 simp only [dJ]
 refine st2z' s.Workers.length (fun i => eQ s.Workers m i) rfl (by omega) (fun rec => ?_) (fun rec i hi => ?_)
 ·rw [ltE,cond_false]
 ·have hx : s.Workers[i]? = some s.Workers[i]:=List.getElem?_eq_getElem hi
  rw [ltD hi,cond_true,bX,hx,Option.bind_some,aFj N hN _ h1 h7,Option.bind_some,nadd1 i (by omega),wS _ _ _ _ hx]
  have:=pO s.Workers m i
  cases hc : anyW s.Workers[i] m with
  | true => rw [cond_true,hZ (by simp; omega),Option.bind_some]; rfl
  | false => rw [cond_false]; rfl
theorem aEq {W : List aX} {m : Nat} {k : Nat} {x : aX} (h : W[k]? = some x) (hc : anyW x m = true) : (k : Int) ∈ eQ W m W.length:=by
 unfold eQ
 simp only [List.mem_map,List.mem_filter,List.mem_range]
 exact ⟨k,⟨(List.getElem?_eq_some_iff.1 h).1,by rw [h]; exact hc⟩,rfl⟩
def sumM (J : List bH) (m : Nat) : Nat → Int:=smN fun j => if inM (skL J j) m = true then dsL J j else 0
theorem xM {J : List bH} (hJ : GJ J) (m : Nat) : ∀ i,i ≤ J.length → 0 ≤ sumM J m i ∧ sumM J m i ≤ 30 * (i : Int):=by
 intro i
 induction i with
 | zero => intro _; exact ⟨Int.le_refl _,Int.le_refl _⟩
 | succ i ih =>
  intro hi
  have:=ih (by omega)
  have:=hJ.ds (j:=i) (by omega)
  have e : sumM J m (i + 1) = sumM J m i + (if inM (skL J i) m = true then dsL J i else 0):=rfl
  rw [e]
  split <;> omega
theorem aHc (N : Nat) (hN : 100 < N) {J : List bH} (hJ : GJ J) {m : Nat} (h1 : 1 ≤ m) (h7 : m ≤ 7) : bS N J (m : Int) = some (sumM J m J.length):=by
 unfold bS
 simp only [dJ]
 have hn:=hJ.len
 refine st2z' J.length (fun i => sumM J m i) rfl (by omega) (fun rec => ?_) (fun rec i hi => ?_)
 ·rw [ltE,cond_false]
 ·have hx : J[i]? = some J[i]:=List.getElem?_eq_getElem hi
  have hd:=vT hx
  have hs : skL J i = J[i].Skill:=by simp [skL,hx]
  have ha:=hJ.all _ (List.getElem_mem hi)
  have hb:=xM hJ m i (by omega)
  rw [ltD hi,cond_true,bX,hx,Option.bind_some,in_c N _ ⟨by omega,by omega⟩ h1 h7,Option.bind_some,nadd1 i (by omega)]
  show _ = rec (sumM J m i + (if inM (skL J i) m = true then dsL J i else 0)) _
  rw [hd,hs]
  cases hc : inM J[i].Skill m with
  | true => rw [cond_true,if_pos rfl,w64 (by omega) (by omega)]
  | false => rw [cond_false,if_neg (by simp),Int.add_zero]
def nV (s : aH) (m : Nat) : Int:=if sumM s.Jobs m s.Jobs.length > 0 then (sumM s.Jobs m s.Jobs.length + ((eQ s.Workers m s.Workers.length).length : Int) - 1) / ((eQ s.Workers m s.Workers.length).length : Int) else 0
theorem aEF {s : aH} (hJ : GJ s.Jobs) {m : Nat} (h1 : 1 ≤ m) (h7 : m ≤ 7) {j : Nat} (hj : j < s.Jobs.length) (hin : inM (skL s.Jobs j) m = true) {w : Int} (hw : w ∈ oW s.Workers (skL s.Jobs j)) : w ∈ eQ s.Workers m s.Workers.length:=by
 obtain ⟨k,x,rfl,hx,hc⟩:=yE.1 hw
 refine aEq hx ?_
 have hxj : s.Jobs[j]? = some s.Jobs[j]:=List.getElem?_eq_getElem hj
 have ha:=hJ.all _ (List.getElem_mem hj)
 have hs : skL s.Jobs j = s.Jobs[j].Skill:=by simp [skL,hxj]
 rw [hs] at hin hc
 have hk : s.Jobs[j].Skill = 1 ∨ s.Jobs[j].Skill = 2 ∨ s.Jobs[j].Skill = 3:=by omega
 generalize s.Jobs[j].Skill = k at hk hin hc
 have hm : m = 1 ∨ m = 2 ∨ m = 3 ∨ m = 4 ∨ m = 5 ∨ m = 6 ∨ m = 7:=by omega
 obtain ⟨a,b,c⟩:=x
 rcases hk with rfl | rfl | rfl <;> rcases hm with rfl | rfl | rfl | rfl | rfl | rfl | rfl <;> revert hin hc <;> cases a <;> cases b <;> cases c <;> decide
theorem aAs {s : aH} (hJ : GJ s.Jobs) (ha : nZ s) {m : Nat} (h1 : 1 ≤ m) (h7 : m ≤ 7) (h : sumM s.Jobs m s.Jobs.length > 0) : 0 < (eQ s.Workers m s.Workers.length).length:=by
 have : ∃ j,j < s.Jobs.length ∧ inM (skL s.Jobs j) m = true:=by
  refine Classical.byContradiction fun hno => ?_
  have : sumM s.Jobs m s.Jobs.length = 0:=smN.zero _ _ fun j hj => by
   show (if inM (skL s.Jobs j) m = true then dsL s.Jobs j else 0) = 0
   rw [if_neg (fun e => hno ⟨j,hj,e⟩)]
  omega
 obtain ⟨j,hj,hin⟩:=this
 obtain ⟨w,hw⟩:=List.exists_mem_of_ne_nil _ (ha j hj)
 exact List.length_pos_of_mem (aEF hJ h1 h7 hj hin hw)
theorem aEH (N : Nat) (hN : 100 < N) {s : aH} (h : GW s) (ha : nZ s) : eC N s = some (mxN (fun i => nV s (i + 1)) 7):=by
 unfold eC
 simp only [dJ]
 have hn:=h.jobs.len
 have hw4:=h.w4
 have key : ∀ (k M : Nat),k ≤ 7 → 8 - k ≤ M → loop2 (fun rec_8 (most_6 : Int) (b_7 : Int) => (bif (decide (b_7 ≤ 7)) then ((bS N s.Jobs b_7).bind fun r_16 => ((cA N s b_7).bind fun r_17 => (bif (decide (r_16 > 0)) then ((nzI ((r_17.length : Nat) : Int)).bind fun u_19 => (rec_8 (if (IntKind.i64.wrap (Int.tdiv (IntKind.i64.wrap ((IntKind.i64.wrap (r_16 + ((r_17.length : Nat) : Int))) - 1)) ((r_17.length : Nat) : Int))) > most_6 then (IntKind.i64.wrap (Int.tdiv (IntKind.i64.wrap ((IntKind.i64.wrap (r_16 + ((r_17.length : Nat) : Int))) - 1)) ((r_17.length : Nat) : Int))) else most_6) (IntKind.u8.wrap (b_7 + 1)))) else (rec_8 most_6 (IntKind.u8.wrap (b_7 + 1)))))) else some most_6)) M (mxN (fun i => nV s (i + 1)) k) ((k + 1 : Nat) : Int) = some (mxN (fun i => nV s (i + 1)) 7):=by
  intro k M
  induction M generalizing k with
  | zero => intro h1 h2; omega
  | succ M ih =>
   intro h1 h2
   show cond (decide (((k + 1 : Nat) : Int) ≤ 7)) _ _ = _
   by_cases hk : k = 7
   ·subst hk; rfl
   ·have hwr : IntKind.u8.wrap (((k + 1 : Nat) : Int) + 1) = ((k + 1 + 1 : Nat) : Int):=by
     have : k = 0 ∨ k = 1 ∨ k = 2 ∨ k = 3 ∨ k = 4 ∨ k = 5 ∨ k = 6:=by omega
     rcases this with rfl | rfl | rfl | rfl | rfl | rfl | rfl <;> rfl
    have hb:=xM h.jobs (k + 1) s.Jobs.length (Nat.le_refl _)
    have hgl:=pO s.Workers (k + 1) s.Workers.length
    have hnext : mxN (fun i => nV s (i + 1)) (k + 1) = max (mxN (fun i => nV s (i + 1)) k) (nV s (k + 1)):=rfl
    have hp:=mxN.pos (fun i => nV s (i + 1)) k
    rw [decide_eq_true (by omega),cond_true,aHc N hN h.jobs (by omega) (by omega),Option.bind_some,aGp N hN s hw4 (by omega) (by omega),Option.bind_some,hwr]
    by_cases hpos : sumM s.Jobs (k + 1) s.Jobs.length > 0
    ·have hg := aAs h.jobs ha (m := k + 1) (by omega) (by omega) hpos
     have hneed : nV s (k + 1) = (sumM s.Jobs (k + 1) s.Jobs.length + ((eQ s.Workers (k + 1) s.Workers.length).length : Int) - 1) / ((eQ s.Workers (k + 1) s.Workers.length).length : Int):=if_pos hpos
     generalize (eQ s.Workers (k + 1) s.Workers.length).length = g at hg hgl hneed
     generalize sumM s.Jobs (k + 1) s.Jobs.length = W at hb hpos hneed
     have hq0 : 0 ≤ (W + (g : Int) - 1) / (g : Int):=Int.ediv_nonneg (by omega) (by omega)
     have hq1 : (W + (g : Int) - 1) / (g : Int) ≤ W + (g : Int) - 1:=Int.ediv_le_self _ (by omega)
     rw [decide_eq_true hpos,cond_true,show nzI (g : Int) = some () from if_neg (by omega),Option.bind_some,w64 (x:=W + (g : Int)) (by omega) (by omega),w64 (x:=W + (g : Int) - 1) (by omega) (by omega),Int.tdiv_eq_ediv_of_nonneg (by omega),w64 (by omega) (by omega),ifmax,← hneed,← hnext]
     exact ih (k + 1) (by omega) (by omega)
    ·have hneed : nV s (k + 1) = 0:=if_neg hpos
     rw [decide_eq_false hpos,cond_false]
     have:=ih (k + 1) (by omega) (by omega)
     rw [hnext,hneed,show max (mxN (fun i => nV s (i + 1)) k) 0 = mxN (fun i => nV s (i + 1)) k by omega] at this
     exact this
 exact key 0 N (by omega) (by omega)
def aFA (s : aH) : Int:=max (mxN (fun f => sumF s.Jobs (f : Int) s.Jobs.length) 7) (mxN (fun i => nV s (i + 1)) 7)
theorem aGP (N : Nat) (hN : 100 < N) {s : aH} (h : GW s) : (¬ nZ s ∧ eO N s = some (0,7)) ∨ (nZ s ∧ eO N s = some (aFA s,0)):=by
 unfold eO
 rcases aEU N hN h with ⟨h1,h2⟩ | ⟨h1,h2⟩
 ·rw [h2]; exact .inl ⟨h1,rfl⟩
 ·rw [h2,Option.bind_some,show ((0 : Int) != 0) = false from rfl,cond_false,yF N hN h.jobs,Option.bind_some,aEH N hN h h1,Option.bind_some,ifmax]
  exact .inr ⟨h1,rfl⟩
theorem aEJ {s : aH} (h : GW s) {l : List aG} {d : Int} (hb : aHb s h.jobs l d) {w dd : Nat → Int} (hok : Okp (lG s h.jobs) w dd) (hw : ∀ j,0 ≤ w j) (ho : ∀ j,s.Jobs.length ≤ j → dd j = 0) : d ≤ mxN (fun j => dd j + dsL s.Jobs j) s.Jobs.length:=by
 have:=hb.min w dd hok hw ho
 rw [hb.days]
 rcases this with e | e
 ·exact Int.le_of_eq (List.cons.inj e).1
 ·rcases e with e | ⟨e,_⟩
  ·exact Int.le_of_lt e
  ·exact Int.le_of_eq e
theorem wJ.best {s : aH} (h : GW s) {l l2 : List aG} {d : Int} (hb : aHb s h.jobs l d) (hp : wJ s l2) : d ≤ mxN (fun j => dyL l2 j + dsL s.Jobs j) s.Jobs.length:=by
 have hok:=hp.okp h
 have hout : ∀ j,s.Jobs.length ≤ j → dyL l2 j = 0 ∧ wkL l2 j = 0:=fun j hj => by
  unfold dyL wkL
  rw [List.getElem?_eq_none (by rw [hp.len]; exact hj)]
  exact ⟨rfl,rfl⟩
 refine aEJ h hb hok (fun j => ?_) fun j hj => (hout j hj).1
 by_cases hj : j < s.Jobs.length
 ·obtain ⟨k,_,e,_⟩:=yE.1 (hok.can j hj)
  rw [e]; exact Int.natCast_nonneg k
 ·rw [(hout j (by omega)).2]; exact Int.le_refl _
theorem xR (f : Int) (J : List bH) : ∀ (k b : Nat),aftF f J k = (b : Int) → flL J b = f
 | 0,b,h => by unfold aftF at h; omega
 | k + 1,b,h => by
  unfold aftF at h
  split at h
  ·rename_i hf
   obtain rfl : k = b:=by omega
   exact hf
  ·exact xR f J k b h
end
section
@[simp] theorem aHX {α : Type} {f : α → AV} (h : ∀ l : List α,bB (l.map f) = true) (l : List (List α)) : bB (l.map (SV f)) = true:=cR (fun x => by simp [SV,AV.clean,h]) l
end
section
open Go.RowKit
attribute [local simp] ren ren1 AV.plain AV.plain1 AV.clean bB fX dS gB fR dB dC fE dN cF cJ eV fY dK cZ cT aK aE aU aI aW aC aB aA aN bO bP eH dP fL eG aO aJ aQ aF back back1 re re1 List.idxOf? List.findIdx? List.findIdx?.go nH oX zF vE rN kO nY qA lF jI
def mS (N : Nat) (n_1 : Int) (least_2 : Int) (most_3 : Int) : Option (Bool):=(bif (decide (n_1 ≥ least_2)) then some (decide (n_1 ≤ most_3)) else some false)
def tX (r : Bool) : AV:=.bool r
attribute [local simp] tX
theorem rI (n_1 : Int) (least_2 : Int) (most_3 : Int) : [i6 n_1,i6 least_2,i6 most_3].mapM (ren []) = some [i6 n_1,i6 least_2,i6 most_3]:=by simp
theorem rD (r : Bool) (n n2 m : Nat) : back n n2 m (tX r) = some (tX r):=by simp
theorem qX (N : Nat) (n_1 : Int) (least_2 : Int) (most_3 : Int) (r : Bool) (h : mS N n_1 least_2 most_3 = some r) : Does Tryz.prog 98 [i6 n_1,i6 least_2,i6 most_3] [] fun v c => v = tX r ∧ c = []:=by
 unfold mS at h
 refine Does.ofL comp98 _ _ rfl rfl ?_
 refine Ex.seq (rg 1 [0,1,2] (mkS 15 [(0,i6 n_1),(1,i6 least_2),(2,i6 most_3)]) ⟨[],[]⟩ ?_)
 refine Ex.seq ?_
 rcases aY h with ⟨hc_4,h⟩ | ⟨hc_4,h⟩
 ·refine regH 9 [(3, .eq (.bool true))] [6] [AV.bool (decide (n_1 ≥ least_2)) = AV.bool true] (mkS 15 [(6, .bool (decide (n_1 ≤ most_3)))]) (⟨[], []⟩) (by kernel_rfl) ⟨congrArg AV.bool hc_4, trivial⟩ rfl ?_
  refine Ex.ret ?_
  obtain rfl:=sJ h
  exact rt (.bool (decide (n_1 ≤ most_3)))
 ·refine regH 9 [(3, .eq (.bool false))] [6] [AV.bool (decide (n_1 ≥ least_2)) = AV.bool false] (mkS 15 [(6, .bool false)]) (⟨[], []⟩) (by kernel_rfl) ⟨congrArg AV.bool hc_4, trivial⟩ rfl ?_
  refine Ex.ret ?_
  obtain rfl:=sJ h
  exact rt (.bool false)
structure bL where
 Kind : Int
 A : Int
 B : Int
 deriving Inhabited
def bJ (x : bL) : List AV:=[i6 x.Kind,i6 x.A,i6 x.B]
attribute [local simp] bJ
def aP (x : bL) : AV:=.agg (bJ x)
attribute [local simp] aP
theorem aEN (x : bL) : bB (bJ x) = true:=by simp
theorem aEP (x : bL) : (aP x).clean = true:=aEN x
theorem jS (l : List bL) : bB (l.map aP) = true:=cR aEP l
attribute [local simp] jS
theorem wK (x : bL) (n : Nat) (σ : List Nat) : (bJ x).mapM (re n σ) = some (bJ x):=by simp
attribute [local simp] wK
def qQ (N : Nat) (h_1 : bL) : Option (Int):=(letJ (fun (y_2 : Bool) => (bif y_2 then some 2 else (bif (decide (h_1.A ≥ h_1.B)) then some 9 else some 0))) (fun k_3 => ((mS N h_1.A 0 20000).bind fun r_6 => (bif (!r_6) then (k_3 true) else ((mS N h_1.B 0 20000).bind fun r_8 => (k_3 (!r_8)))))))
def nM (r : Int) : AV:=i6 r
attribute [local simp] nM
theorem aCL (h_1 : bL) : [(aP h_1)].mapM (ren []) = some [(aP h_1)]:=by simp
theorem aCA (r : Int) (n n2 m : Nat) : back n n2 m (nM r) = some (nM r):=by simp
theorem aCg (N : Nat) (h_1 : bL) (r : Int) (h : qQ N h_1 = some r) : Does Tryz.prog 87 [(aP h_1)] [] fun v c => v = nM r ∧ c = []:=by
 unfold qQ at h
 refine Does.ofL comp87 _ _ rfl rfl ?_
 refine Ex.seq (rg 2 [1] (mkS 20 [(1,.ptr 0 0)]) ⟨[(bJ h_1)],[]⟩ ?_)
 refine Ex.seq ?_
 refine Ex.blockK ?_
 obtain ⟨K_4,hK_5,h⟩:=letE h
 refine Ex.seqJ (fun a S => ∃ (y_2 : Bool),K_4 y_2 = some r ∧ a = mkS 20 [(1,.ptr 0 0),(3,.bool y_2)] ∧ S = ⟨[(bJ h_1)],[]⟩) ?_ ?_
 ·obtain ⟨r_6,hr_6,h⟩:=bE h
  refine Ex.reg (rn 2 [1,5] (mkS 20 [(1,.ptr 0 0),(5,i6 h_1.A)]) ⟨[(bJ h_1)],[]⟩ ?_)
  refine ExO.callL [] [i6 h_1.A,i6 0,i6 20000] rfl rfl (rI h_1.A 0 20000) rfl rfl (qX N h_1.A 0 20000 r_6 hr_6) (rD _ _ _ _) rfl ?_
  rcases aY h with ⟨hc_7,h⟩ | ⟨hc_7,h⟩
  ·refine runH 8 [(1, .eq (.bool true))] [1, 3] [AV.bool (!r_6) = AV.bool true] (mkS 20 [(1, .ptr 0 0), (3, .bool true)]) (⟨[(bJ h_1)], []⟩) (by kernel_rfl) ⟨congrArg AV.bool hc_7, trivial⟩ ?_
   refine ExO.nil ?_
   (try simp only [reduceCtorEq,AEx.ex.injEq,Nat.reduceEqDiff,if_true,if_false])
   exact ⟨_,_,aM.refl _ _ _,true,h,rfl,rfl⟩
  ·obtain ⟨r_8,hr_8,h⟩:=bE h
   refine runH 4 [(1,.eq (.bool false))] [1,8,10] [AV.bool (!r_6) = AV.bool false] (mkS 20 [(1,.ptr 0 0),(8,.bool false),(10,i6 h_1.B)]) (⟨[(bJ h_1)],[]⟩) (by kernel_rfl) ⟨congrArg AV.bool hc_7,trivial⟩ ?_
   refine ExO.callL [] [i6 h_1.B,i6 0,i6 20000] rfl rfl (rI h_1.B 0 20000) rfl rfl (qX N h_1.B 0 20000 r_8 hr_8) (rD _ _ _ _) rfl ?_
   refine rn 3 [1,3] (mkS 20 [(1,.ptr 0 0),(3,.bool (!r_8))]) ⟨[(bJ h_1)],[]⟩ ?_
   refine ExO.nil ?_
   (try simp only [reduceCtorEq,AEx.ex.injEq,Nat.reduceEqDiff,if_true,if_false])
   exact ⟨_,_,aM.refl _ _ _,(!r_8),h,rfl,rfl⟩
 ·rintro a S ⟨y_2,h,rfl,rfl⟩
  subst hK_5
  rcases aY h with ⟨hc_9,h⟩ | ⟨hc_9,h⟩
  ·refine Ex.condT _ rfl hc_9 ?_
   refine Ex.seq (rg 1 [2] (mkS 20 [(2,i6 2)]) ⟨[(bJ h_1)],[]⟩ ?_)
   refine Ex.ret ?_
   obtain rfl:=sJ h
   exact rt (i6 2)
  ·refine Ex.condF _ rfl hc_9 ?_
   refine Ex.seq (rg 6 [14] (mkS 20 [(14,.bool (decide (h_1.A ≥ h_1.B)))]) ⟨[(bJ h_1)],[]⟩ ?_)
   rcases aY h with ⟨hc_10,h⟩ | ⟨hc_10,h⟩
   ·refine Ex.condT _ rfl hc_10 ?_
    refine Ex.seq (rg 1 [2] (mkS 20 [(2,i6 9)]) ⟨[(bJ h_1)],[]⟩ ?_)
    refine Ex.ret ?_
    obtain rfl:=sJ h
    exact rt (i6 9)
   ·refine Ex.condF _ rfl hc_10 ?_
    refine Ex.skip ?_
    refine Ex.seq (rg 1 [2] (mkS 20 [(2,i6 0)]) ⟨[(bJ h_1)],[]⟩ ?_)
    refine Ex.ret ?_
    obtain rfl:=sJ h
    exact rt (i6 0)
def qP (N : Nat) (h_1 : bL) : Option (Int):=((mS N h_1.A 0 2000).bind fun r_2 => (bif (!r_2) then some 2 else (bif (h_1.B != 0) then some 1 else some 0)))
def nL (r : Int) : AV:=i6 r
attribute [local simp] nL
theorem aCK (h_1 : bL) : [(aP h_1)].mapM (ren []) = some [(aP h_1)]:=by simp
theorem aCz (r : Int) (n n2 m : Nat) : back n n2 m (nL r) = some (nL r):=by simp
theorem aCf (N : Nat) (h_1 : bL) (r : Int) (h : qP N h_1 = some r) : Does Tryz.prog 88 [(aP h_1)] [] fun v c => v = nL r ∧ c = []:=by
 unfold qP at h
 refine Does.ofL comp88 _ _ rfl rfl ?_
 refine Ex.seq (rg 2 [1] (mkS 12 [(1,.ptr 0 0)]) ⟨[(bJ h_1)],[]⟩ ?_)
 refine Ex.seq ?_
 refine Ex.blockK ?_
 refine Ex.seq ?_
 obtain ⟨r_2,hr_2,h⟩:=bE h
 refine Ex.reg (rn 2 [1,5] (mkS 12 [(1,.ptr 0 0),(5,i6 h_1.A)]) ⟨[(bJ h_1)],[]⟩ ?_)
 refine ExO.callL [] [i6 h_1.A,i6 0,i6 2000] rfl rfl (rI h_1.A 0 2000) rfl rfl (qX N h_1.A 0 2000 r_2 hr_2) (rD _ _ _ _) rfl ?_
 refine rn 2 [1,3] (mkS 12 [(1,.ptr 0 0),(3,.bool (!r_2))]) ⟨[(bJ h_1)],[]⟩ ?_
 refine ExO.nil ?_
 rcases aY h with ⟨hc_3,h⟩ | ⟨hc_3,h⟩
 ·refine Ex.condT _ rfl hc_3 ?_
  refine Ex.seq (rg 1 [2] (mkS 12 [(2,i6 2)]) ⟨[(bJ h_1)],[]⟩ ?_)
  refine Ex.ret ?_
  obtain rfl:=sJ h
  exact rt (i6 2)
 ·refine Ex.condF _ rfl hc_3 ?_
  refine Ex.seq (rg 4 [8] (mkS 12 [(8,.bool (h_1.B != 0))]) ⟨[(bJ h_1)],[]⟩ ?_)
  rcases aY h with ⟨hc_4,h⟩ | ⟨hc_4,h⟩
  ·refine Ex.condT _ rfl hc_4 ?_
   refine Ex.seq (rg 1 [2] (mkS 12 [(2,i6 1)]) ⟨[(bJ h_1)],[]⟩ ?_)
   refine Ex.ret ?_
   obtain rfl:=sJ h
   exact rt (i6 1)
  ·refine Ex.condF _ rfl hc_4 ?_
   refine Ex.skip ?_
   refine Ex.seq (rg 1 [2] (mkS 12 [(2,i6 0)]) ⟨[(bJ h_1)],[]⟩ ?_)
   refine Ex.ret ?_
   obtain rfl:=sJ h
   exact rt (i6 0)
def oC (N : Nat) (h_1 : bL) : Option (Int):=(letJ (fun (y_2 : Bool) => (bif y_2 then some 2 else some 0)) (fun k_3 => ((mS N h_1.A 0 10000000).bind fun r_6 => (bif (!r_6) then (k_3 true) else ((mS N h_1.B 0 10000000).bind fun r_8 => (k_3 (!r_8)))))))
def lB (r : Int) : AV:=i6 r
attribute [local simp] lB
theorem aAc (h_1 : bL) : [(aP h_1)].mapM (ren []) = some [(aP h_1)]:=by simp
theorem zX (r : Int) (n n2 m : Nat) : back n n2 m (lB r) = some (lB r):=by simp
theorem zP (N : Nat) (h_1 : bL) (r : Int) (h : oC N h_1 = some r) : Does Tryz.prog 89 [(aP h_1)] [] fun v c => v = lB r ∧ c = []:=by
 unfold oC at h
 refine Does.ofL comp89 _ _ rfl rfl ?_
 refine Ex.seq (rg 2 [1] (mkS 13 [(1,.ptr 0 0)]) ⟨[(bJ h_1)],[]⟩ ?_)
 refine Ex.seq ?_
 obtain ⟨K_4,hK_5,h⟩:=letE h
 refine Ex.seqJ (fun a S => ∃ (y_2 : Bool),K_4 y_2 = some r ∧ a = mkS 13 [(12,.bool y_2)] ∧ S = ⟨[],[]⟩) ?_ ?_
 ·obtain ⟨r_6,hr_6,h⟩:=bE h
  refine Ex.reg (rn 2 [1,4] (mkS 13 [(1,.ptr 0 0),(4,i6 h_1.A)]) ⟨[(bJ h_1)],[]⟩ ?_)
  refine ExO.callL [] [i6 h_1.A,i6 0,i6 10000000] rfl rfl (rI h_1.A 0 10000000) rfl rfl (qX N h_1.A 0 10000000 r_6 hr_6) (rD _ _ _ _) rfl ?_
  rcases aY h with ⟨hc_7,h⟩ | ⟨hc_7,h⟩
  ·refine runH 7 [(1, .eq (.bool true))] [12] [AV.bool (!r_6) = AV.bool true] (mkS 13 [(12, .bool true)]) (⟨[(bJ h_1)], []⟩) (by kernel_rfl) ⟨congrArg AV.bool hc_7, trivial⟩ ?_
   refine ExO.nil ?_
   (try simp only [reduceCtorEq,AEx.ex.injEq,Nat.reduceEqDiff,if_true,if_false])
   exact ⟨_,_,bM (m:=13) 0 [] [(12,.bool true)] [] [] (by simp [bD]) (by simp) ⟨rfl,trivial⟩ (by simp) rfl (by decide),true,h,rfl,rfl⟩
  ·obtain ⟨r_8,hr_8,h⟩:=bE h
   refine runH 4 [(1,.eq (.bool false))] [7,9] [AV.bool (!r_6) = AV.bool false] (mkS 13 [(7,.bool false),(9,i6 h_1.B)]) (⟨[(bJ h_1)],[]⟩) (by kernel_rfl) ⟨congrArg AV.bool hc_7,trivial⟩ ?_
   refine ExO.callL [] [i6 h_1.B,i6 0,i6 10000000] rfl rfl (rI h_1.B 0 10000000) rfl rfl (qX N h_1.B 0 10000000 r_8 hr_8) (rD _ _ _ _) rfl ?_
   refine rn 2 [12] (mkS 13 [(12,.bool (!r_8))]) ⟨[(bJ h_1)],[]⟩ ?_
   refine ExO.nil ?_
   (try simp only [reduceCtorEq,AEx.ex.injEq,Nat.reduceEqDiff,if_true,if_false])
   exact ⟨_,_,bM (m:=13) 0 [] [(12,.bool (!r_8))] [] [] (by simp [bD]) (by simp) ⟨rfl,trivial⟩ (by simp) rfl (by decide),(!r_8),h,rfl,rfl⟩
 ·rintro a S ⟨y_2,h,rfl,rfl⟩
  subst hK_5
  rcases aY h with ⟨hc_9,h⟩ | ⟨hc_9,h⟩
  ·refine Ex.condT _ rfl hc_9 ?_
   refine Ex.seq (rg 1 [2] (mkS 13 [(2,i6 2)]) ⟨[],[]⟩ ?_)
   refine Ex.ret ?_
   obtain rfl:=sJ h
   exact rt (i6 2)
  ·refine Ex.condF _ rfl hc_9 ?_
   refine Ex.skip ?_
   refine Ex.seq (rg 1 [2] (mkS 13 [(2,i6 0)]) ⟨[],[]⟩ ?_)
   refine Ex.ret ?_
   obtain rfl:=sJ h
   exact rt (i6 0)
def oB (N : Nat) (h_1 : bL) : Option (Int):=(bif (h_1.Kind == 1) then ((qQ N h_1).bind fun r_3 => some r_3) else (bif (h_1.Kind == 2) then ((qP N h_1).bind fun r_5 => some r_5) else (bif (h_1.Kind == 3) then ((oC N h_1).bind fun r_7 => some r_7) else some 3)))
def lA (r : Int) : AV:=i6 r
attribute [local simp] lA
theorem aAb (h_1 : bL) : [(aP h_1)].mapM (ren []) = some [(aP h_1)]:=by simp
theorem zW (r : Int) (n n2 m : Nat) : back n n2 m (lA r) = some (lA r):=by simp
theorem zO (N : Nat) (h_1 : bL) (r : Int) (h : oB N h_1 = some r) : Does Tryz.prog 71 [(aP h_1)] [] fun v c => v = lA r ∧ c = []:=by
 unfold oB at h
 refine Does.ofL comp71 _ _ rfl rfl ?_
 refine Ex.seq (rg 2 [1] (mkS 17 [(1,.ptr 0 0)]) ⟨[(bJ h_1)],[]⟩ ?_)
 refine Ex.seq (Ex.seq ?_)
 refine rg 2 [1,4] (mkS 17 [(1,.ptr 0 0),(4,i6 h_1.Kind)]) ⟨[(bJ h_1)],[]⟩ ?_
 refine Ex.blockK ?_
 refine Ex.seq (rg 2 [1,4,5] (mkS 17 [(1,.ptr 0 0),(4,i6 h_1.Kind),(5,.bool (h_1.Kind == 1))]) ⟨[(bJ h_1)],[]⟩ ?_)
 rcases aY h with ⟨hc_2,h⟩ | ⟨hc_2,h⟩
 ·refine Ex.condT _ rfl hc_2 ?_
  refine Ex.seq ?_
  obtain ⟨r_3,hr_3,h⟩:=bE h
  refine Ex.reg (rn 1 [7] (mkS 17 [(7,(aP h_1))]) ⟨[(bJ h_1)],[]⟩ ?_)
  refine ExO.callL [] [(aP h_1)] rfl rfl (aCL h_1) rfl rfl (aCg N h_1 r_3 hr_3) (aCA _ _ _ _) rfl ?_
  refine rn 1 [2] (mkS 17 [(2,i6 r_3)]) ⟨[(bJ h_1)],[]⟩ ?_
  refine ExO.nil ?_
  refine Ex.ret ?_
  obtain rfl:=sJ h
  exact rt (i6 r_3)
 ·refine Ex.condF _ rfl hc_2 ?_
  refine Ex.seq (rg 2 [1,4,9] (mkS 17 [(1,.ptr 0 0),(4,i6 h_1.Kind),(9,.bool (h_1.Kind == 2))]) ⟨[(bJ h_1)],[]⟩ ?_)
  rcases aY h with ⟨hc_4,h⟩ | ⟨hc_4,h⟩
  ·refine Ex.condT _ rfl hc_4 ?_
   refine Ex.seq ?_
   obtain ⟨r_5,hr_5,h⟩:=bE h
   refine Ex.reg (rn 1 [11] (mkS 17 [(11,(aP h_1))]) ⟨[(bJ h_1)],[]⟩ ?_)
   refine ExO.callL [] [(aP h_1)] rfl rfl (aCK h_1) rfl rfl (aCf N h_1 r_5 hr_5) (aCz _ _ _ _) rfl ?_
   refine rn 1 [2] (mkS 17 [(2,i6 r_5)]) ⟨[(bJ h_1)],[]⟩ ?_
   refine ExO.nil ?_
   refine Ex.ret ?_
   obtain rfl:=sJ h
   exact rt (i6 r_5)
  ·refine Ex.condF _ rfl hc_4 ?_
   refine Ex.seq (rg 2 [1,13] (mkS 17 [(1,.ptr 0 0),(13,.bool (h_1.Kind == 3))]) ⟨[(bJ h_1)],[]⟩ ?_)
   rcases aY h with ⟨hc_6,h⟩ | ⟨hc_6,h⟩
   ·refine Ex.condT _ rfl hc_6 ?_
    refine Ex.seq ?_
    obtain ⟨r_7,hr_7,h⟩:=bE h
    refine Ex.reg (rn 1 [15] (mkS 17 [(15,(aP h_1))]) ⟨[(bJ h_1)],[]⟩ ?_)
    refine ExO.callL [] [(aP h_1)] rfl rfl (aAc h_1) rfl rfl (zP N h_1 r_7 hr_7) (zX _ _ _ _) rfl ?_
    refine rn 1 [2] (mkS 17 [(2,i6 r_7)]) ⟨[(bJ h_1)],[]⟩ ?_
    refine ExO.nil ?_
    refine Ex.ret ?_
    obtain rfl:=sJ h
    exact rt (i6 r_7)
   ·refine Ex.condF _ rfl hc_6 ?_
    refine Ex.skip ?_
    refine Ex.seq (rg 1 [2] (mkS 17 [(2,i6 3)]) ⟨[(bJ h_1)],[]⟩ ?_)
    refine Ex.ret ?_
    obtain rfl:=sJ h
    exact rt (i6 3)
def pK (N : Nat) (route_1 : (List bL)) : Option (Int):=(bif (decide (((route_1.length : Nat) : Int) > 40)) then some 5 else (letJ (fun (_ : Unit) => some 0) (fun k_3 => (loop1 (fun rec_7 (y_6 : Int) => (bif (decide (y_6 < ((route_1.length : Nat) : Int))) then ((getI route_1 y_6).bind fun x_11 => ((oB N x_11).bind fun r_12 => (bif (r_12 != 0) then some r_12 else (rec_7 (IntKind.i64.wrap (y_6 + 1)))))) else (k_3 ()))) N 0))))
def mJ (r : Int) : AV:=i6 r
attribute [local simp] mJ
theorem aBD (route_1 : (List bL)) : [.sl (route_1.map aP) none].mapM (ren []) = some [.sl (route_1.map aP) none]:=by simp
theorem aBv (r : Int) (n n2 m : Nat) : back n n2 m (mJ r) = some (mJ r):=by simp
theorem aBh (N : Nat) (route_1 : (List bL)) (r : Int) (h : pK N route_1 = some r) : Does Tryz.prog 58 [.sl (route_1.map aP) none] [] fun v c => v = mJ r ∧ c = []:=by
 unfold pK at h
 refine Does.ofL comp58 _ _ rfl rfl ?_
 refine Ex.seq (rg 1 [0] (mkS 21 [(0,.sl (route_1.map aP) none)]) ⟨[],[]⟩ ?_)
 refine Ex.seq (Ex.seq ?_)
 refine regH 3 [(1,.eq (i6 ((route_1.length : Nat) : Int)))] [0,8] [AV.int .i64 (((route_1.map aP).length : Nat) : Int) = AV.int .i64 ((route_1.length : Nat) : Int)] (mkS 21 [(0,.sl (route_1.map aP) none),(8,.bool (decide (((route_1.length : Nat) : Int) > 40)))]) (⟨[],[]⟩) (by kernel_rfl) ⟨lenM _ _,trivial⟩ rfl ?_
 rcases aY h with ⟨hc_2,h⟩ | ⟨hc_2,h⟩
 ·refine Ex.condT _ rfl hc_2 ?_
  refine Ex.seq (rg 1 [2] (mkS 21 [(2,i6 5)]) ⟨[],[]⟩ ?_)
  refine Ex.ret ?_
  obtain rfl:=sJ h
  exact rt (i6 5)
 ·refine Ex.condF _ rfl hc_2 ?_
  refine Ex.skip ?_
  refine Ex.seq (Ex.seq ?_)
  refine regH 3 [(1,.eq (i6 ((route_1.length : Nat) : Int)))] [9,10,11] [AV.int .i64 (((route_1.map aP).length : Nat) : Int) = AV.int .i64 ((route_1.length : Nat) : Int)] (mkS 21 [(9,.sl (route_1.map aP) none),(10,i6 ((route_1.length : Nat) : Int)),(11,i6 0)]) (⟨[],[]⟩) (by kernel_rfl) ⟨lenM _ _,trivial⟩ rfl ?_
  obtain ⟨K_4,hK_5,h⟩:=letE h
  refine Ex.blockJ (fun a S => K_4 () = some r ∧ a = mkS 21 [] ∧ S = ⟨[],[]⟩) ?_ ?_
  ·obtain ⟨B_8,hB_9,h⟩:=iU h
   refine Ex.loopF (fun k a S => ∃ (y_6 : Int),loop1 B_8 k y_6 = some r ∧ a = mkS 21 [(9,.sl (route_1.map aP) none),(10,i6 ((route_1.length : Nat) : Int)),(11,i6 y_6)] ∧ S = ⟨[],[]⟩) N ⟨_,_,aM.refl _ _ _,0,h,rfl,rfl⟩ ?_
   rintro k a S ⟨y_6,h,rfl,rfl⟩
   cases k with
   | zero => exact (iS h).elim
   | succ k =>
    replace h:=iT h hB_9
    refine Ex.seq (rg 1 [9,10,11,12] (mkS 21 [(9,.sl (route_1.map aP) none),(10,i6 ((route_1.length : Nat) : Int)),(11,i6 y_6),(12,.bool (decide (y_6 < ((route_1.length : Nat) : Int))))]) ⟨[],[]⟩ ?_)
    refine Ex.seq ?_
    rcases aY h with ⟨hc_10,h⟩ | ⟨hc_10,h⟩
    ·refine Ex.condT _ rfl hc_10 ?_
     refine Ex.skip ?_
     refine Ex.seq ?_
     refine Ex.blockK ?_
     refine Ex.seq ?_
     obtain ⟨x_11,hx_11,h⟩:=bE h
     refine regH 4 [(0,.rop (bJ x_11))] [4,9,10,11] [LGet (route_1.map aP) y_6 3 (bJ x_11)] (mkS 21 [(4,.ptr 0 0),(9,.sl (route_1.map aP) none),(10,i6 ((route_1.length : Nat) : Int)),(11,i6 y_6)]) (⟨[(bJ x_11)],[]⟩) (by kernel_rfl) ⟨LGet.of hx_11 rfl,trivial⟩ rfl ?_
     refine Ex.seq ?_
     obtain ⟨r_12,hr_12,h⟩:=bE h
     refine Ex.reg (rn 1 [9,10,11,15] (mkS 21 [(9,.sl (route_1.map aP) none),(10,i6 ((route_1.length : Nat) : Int)),(11,i6 y_6),(15,(aP x_11))]) ⟨[(bJ x_11)],[]⟩ ?_)
     refine ExO.callL [] [(aP x_11)] rfl rfl (aAb x_11) rfl rfl (zO N x_11 r_12 hr_12) (zW _ _ _ _) rfl ?_
     refine rn 1 [5,9,10,11] (mkS 21 [(5,i6 r_12),(9,.sl (route_1.map aP) none),(10,i6 ((route_1.length : Nat) : Int)),(11,i6 y_6)]) ⟨[(bJ x_11)],[]⟩ ?_
     refine ExO.nil ?_
     refine Ex.seq (rg 2 [5,9,10,11,18] (mkS 21 [(5,i6 r_12),(9,.sl (route_1.map aP) none),(10,i6 ((route_1.length : Nat) : Int)),(11,i6 y_6),(18,.bool (r_12 != 0))]) ⟨[(bJ x_11)],[]⟩ ?_)
     rcases aY h with ⟨hc_13,h⟩ | ⟨hc_13,h⟩
     ·refine Ex.condT _ rfl hc_13 ?_
      refine Ex.seq (rg 2 [2] (mkS 21 [(2,i6 r_12)]) ⟨[(bJ x_11)],[]⟩ ?_)
      refine Ex.ret ?_
      obtain rfl:=sJ h
      exact rt (i6 r_12)
     ·refine Ex.condF _ rfl hc_13 ?_
      refine Ex.skip ?_
      refine rg 2 [9,10,11] (mkS 21 [(9,.sl (route_1.map aP) none),(10,i6 ((route_1.length : Nat) : Int)),(11,i6 (IntKind.i64.wrap (y_6 + 1)))]) ⟨[(bJ x_11)],[]⟩ ?_
      dsimp only
      exact ⟨_,_,bM (m:=21) 0 [] [(9,.sl (route_1.map aP) none),(10,i6 ((route_1.length : Nat) : Int)),(11,i6 (IntKind.i64.wrap (y_6 + 1)))] [] [] (by simp [bD]) (by simp) ⟨(reN (jS _)),rfl,rfl,trivial⟩ (by simp) rfl (by decide),k,Nat.lt_succ_self k,(IntKind.i64.wrap (y_6 + 1)),h,rfl,rfl⟩
    ·refine Ex.condF _ rfl hc_10 ?_
     refine Ex.exit ?_
     (try simp only [reduceCtorEq,AEx.ex.injEq,Nat.reduceEqDiff,if_true,if_false])
     exact ⟨_,_,bQ [],h,rfl,rfl⟩
  ·rintro a S ⟨h,rfl,rfl⟩
   subst hK_5
   refine Ex.seq (rg 1 [2] (mkS 21 [(2,i6 0)]) ⟨[],[]⟩ ?_)
   refine Ex.ret ?_
   obtain rfl:=sJ h
   exact rt (i6 0)
structure kW where
 Lo : Int
 Hi : Int
 deriving Inhabited
def oG (x : kW) : List AV:=[i6 x.Lo,i6 x.Hi]
attribute [local simp] oG
def qB (x : kW) : AV:=.agg (oG x)
attribute [local simp] qB
theorem aGF (x : kW) : bB (oG x) = true:=by simp
theorem aGI (x : kW) : (qB x).clean = true:=aGF x
theorem sC (l : List kW) : bB (l.map qB) = true:=cR aGI l
attribute [local simp] sC
theorem aEe (x : kW) (n : Nat) (σ : List Nat) : (oG x).mapM (re n σ) = some (oG x):=by simp
structure cC where
 At : Int
 Kilos : kW
 Top : kW
 Kind : Int
 Watts : Int
 deriving Inhabited
def oH (x : cC) : List AV:=[i6 x.At,i6 x.Kilos.Lo,i6 x.Kilos.Hi,i6 x.Top.Lo,i6 x.Top.Hi,i6 x.Kind,i6 x.Watts]
attribute [local simp] oH
def bF (x : cC) : AV:=.agg (oH x)
attribute [local simp] bF
theorem aGH (x : cC) : bB (oH x) = true:=by simp
theorem aGK (x : cC) : (bF x).clean = true:=aGH x
theorem kM (l : List cC) : bB (l.map bF) = true:=cR aGK l
attribute [local simp] kM
theorem aEf (x : cC) (n : Nat) (σ : List Nat) : (oH x).mapM (re n σ) = some (oH x):=by simp
structure bZ where
 Length : Int
 Width : Int
 Front : Int
 Rear : Int
 Turn : Int
 Kilos : Int
 Middle : Int
 High : Int
 Loads : (List cC)
 deriving Inhabited
def dF (x : bZ) : List AV:=[i6 x.Length,i6 x.Width,i6 x.Front,i6 x.Rear,i6 x.Turn,i6 x.Kilos,i6 x.Middle,i6 x.High,.sl (x.Loads.map bF) none]
attribute [local simp] dF
def bC (x : bZ) : AV:=.agg (dF x)
attribute [local simp] bC
theorem aFJ (x : bZ) : bB (dF x) = true:=by simp
theorem aFL (x : bZ) : (bC x).clean = true:=aFJ x
theorem kN (l : List bZ) : bB (l.map bC) = true:=cR aFL l
attribute [local simp] kN
theorem aCS (x : bZ) (n : Nat) (σ : List Nat) : (dF x).mapM (re n σ) = some (dF x):=by simp
def pI (N : Nat)  : Option ((List bZ)):=some ([(⟨100,30,20,80,50,100,50,40,[]⟩ : bZ),(⟨100,30,20,80,50,400,50,40,[]⟩ : bZ)])
def mH (r : (List bZ)) : AV:=.sl (r.map bC) none
attribute [local simp] mH
theorem aBB  : [].mapM (ren []) = some []:=by simp
theorem aBs (r : (List bZ)) (n n2 m : Nat) : back n n2 m (mH r) = some (mH r):=by simp
theorem aBe (N : Nat)  (r : (List bZ)) (h : pI N  = some r) : Does Tryz.prog 19 [] [] fun v c => v = mH r ∧ c = []:=by
 unfold pI at h
 refine Does.ofL comp19 _ _ rfl rfl ?_
 refine Ex.seq (rg 1 [] (mkS 9 []) ⟨[],[]⟩ ?_)
 refine Ex.seq (rg 3 [1] (mkS 9 [(1,.ptr 0 0)]) ⟨[[i6 100,i6 30,i6 20,i6 80,i6 50,i6 100,i6 50,i6 40,.nils]],[]⟩ ?_)
 refine Ex.seq (rg 3 [1,2] (mkS 9 [(1,.ptr 0 0),(2,.ptr 1 0)]) ⟨[[i6 100,i6 30,i6 20,i6 80,i6 50,i6 100,i6 50,i6 40,.nils],[i6 100,i6 30,i6 20,i6 80,i6 50,i6 100,i6 50,i6 40,.nils]],[]⟩ ?_)
 refine Ex.seq (rg 2 [1,2] (mkS 9 [(1,.ptr 0 0),(2,.ptr 1 0)]) ⟨[[i6 100,i6 30,i6 20,i6 80,i6 50,i6 100,i6 50,i6 40,.nils],[i6 100,i6 30,i6 20,i6 80,i6 50,i6 400,i6 50,i6 40,.nils]],[]⟩ ?_)
 refine Ex.seq ?_
 refine Ex.postF ?_
 refine rg 4 [0] (mkS 9 [(0,.sl [.agg [i6 100,i6 30,i6 20,i6 80,i6 50,i6 100,i6 50,i6 40,.nils],.agg [i6 100,i6 30,i6 20,i6 80,i6 50,i6 400,i6 50,i6 40,.nils]] (some 0))]) ⟨[[i6 100,i6 30,i6 20,i6 80,i6 50,i6 100,i6 50,i6 40,.nils],[i6 100,i6 30,i6 20,i6 80,i6 50,i6 400,i6 50,i6 40,.nils]],[(2,9)]⟩ ?_
 refine ⟨mkS 9 [(0,.sl (([(⟨100,30,20,80,50,100,50,40,[]⟩ : bZ),(⟨100,30,20,80,50,400,50,40,[]⟩ : bZ)] : List bZ).map bC) (some 0))],⟨[[i6 100,i6 30,i6 20,i6 80,i6 50,i6 100,i6 50,i6 40,.nils],[i6 100,i6 30,i6 20,i6 80,i6 50,i6 400,i6 50,i6 40,.nils]],[(2,9)]⟩,aM.castR (by kernel_rfl) rfl (aFq 0 [.agg [i6 100,i6 30,i6 20,i6 80,i6 50,i6 100,i6 50,i6 40,.nils],.agg [i6 100,i6 30,i6 20,i6 80,i6 50,i6 400,i6 50,i6 40,.nils]] (some 0) rfl),?_⟩
 refine Ex.ret ?_
 obtain rfl:=sJ h
 exact rt (.sl (([(⟨100,30,20,80,50,100,50,40,[]⟩ : bZ),(⟨100,30,20,80,50,400,50,40,[]⟩ : bZ)] : List bZ).map bC) (some 0))
def kT (N : Nat) (low_1 : Int) (high_2 : Int) : Option (kW):=some (⟨low_1,high_2⟩ : kW)
def pA (r : kW) : AV:=(qB r)
attribute [local simp] pA
theorem pZ (low_1 : Int) (high_2 : Int) : [i6 low_1,i6 high_2].mapM (ren []) = some [i6 low_1,i6 high_2]:=by simp
theorem pX (r : kW) (n n2 m : Nat) : back n n2 m (pA r) = some (pA r):=by simp
theorem pT (N : Nat) (low_1 : Int) (high_2 : Int) (r : kW) (h : kT N low_1 high_2 = some r) : Does Tryz.prog 44 [i6 low_1,i6 high_2] [] fun v c => v = pA r ∧ c = []:=by
 unfold kT at h
 refine Does.ofL comp44 _ _ rfl rfl ?_
 refine Ex.seq (rg 1 [0,1,4] (mkS 8 [(0,i6 low_1),(1,i6 high_2),(4,.ptr 0 0)]) ⟨[[i6 0,i6 0]],[]⟩ ?_)
 refine Ex.seq (rg 4 [4] (mkS 8 [(4,.ptr 0 0)]) ⟨[[i6 low_1,i6 high_2]],[]⟩ ?_)
 refine Ex.ret ?_
 obtain rfl:=sJ h
 exact rt (.agg [i6 low_1,i6 high_2])
def oD (N : Nat)  : Option ((List (List cC))):=((kT N 10 20).bind fun r_1 => ((kT N 50 60).bind fun r_2 => ((kT N 200 300).bind fun r_3 => ((kT N 30 30).bind fun r_4 => some ([[(⟨30,r_1,r_2,1,0⟩ : cC)],[(⟨70,r_3,r_4,1,0⟩ : cC)]])))))
def lC (r : (List (List cC))) : AV:=.sl (r.map (SV bF)) none
attribute [local simp] lC
theorem aAd  : [].mapM (ren []) = some []:=by simp
theorem zY (r : (List (List cC))) (n n2 m : Nat) : back n n2 m (lC r) = some (lC r):=by simp
theorem zQ (N : Nat)  (r : (List (List cC))) (h : oD N  = some r) : Does Tryz.prog 20 [] [] fun v c => v = lC r ∧ c = []:=by
 unfold oD at h
 refine Does.ofL comp20 _ _ rfl rfl ?_
 refine Ex.seq (rg 1 [] (mkS 10 []) ⟨[],[]⟩ ?_)
 refine Ex.seq ?_
 refine Ex.postF ?_
 obtain ⟨r_1,hr_1,h⟩:=bE h
 refine Ex.reg ?_
 refine ExO.callL [] [i6 10,i6 20] rfl rfl (pZ 10 20) rfl rfl (pT N 10 20 r_1 hr_1) (pX _ _ _ _) rfl ?_
 obtain ⟨r_2,hr_2,h⟩:=bE h
 refine ExO.callL [] [i6 50,i6 60] rfl rfl (pZ 50 60) rfl rfl (pT N 50 60 r_2 hr_2) (pX _ _ _ _) rfl ?_
 obtain ⟨r_3,hr_3,h⟩:=bE h
 refine rn 2 [4] (mkS 10 [(4,.sl (([(⟨30,r_1,r_2,1,0⟩ : cC)] : List cC).map bF) (some 0))]) ⟨[],[(1,7)]⟩ ?_
 refine ExO.callL [] [i6 200,i6 300] rfl rfl (pZ 200 300) rfl rfl (pT N 200 300 r_3 hr_3) (pX _ _ _ _) rfl ?_
 obtain ⟨r_4,hr_4,h⟩:=bE h
 refine ExO.callL [] [i6 30,i6 30] rfl rfl (pZ 30 30) rfl rfl (pT N 30 30 r_4 hr_4) (pX _ _ _ _) rfl ?_
 refine rn 4 [0] (mkS 10 [(0,.sl [.sl (([(⟨30,r_1,r_2,1,0⟩ : cC)] : List cC).map bF) (some 0),.sl (([(⟨70,r_3,r_4,1,0⟩ : cC)] : List cC).map bF) (some 1)] (some 2))]) ⟨[],[(1,7),(1,7),(2,1)]⟩ ?_
 refine ExO.nil ?_
 refine ⟨mkS 10 [(0,.sl (([[(⟨30,r_1,r_2,1,0⟩ : cC)],[(⟨70,r_3,r_4,1,0⟩ : cC)]] : List (List cC)).map (SV bF)) (some 2))],⟨[],[(1,7),(1,7),(2,1)]⟩,aM.castR (by kernel_rfl) rfl (aFq 0 [.sl (([(⟨30,r_1,r_2,1,0⟩ : cC)] : List cC).map bF) (some 0),.sl (([(⟨70,r_3,r_4,1,0⟩ : cC)] : List cC).map bF) (some 1)] (some 2) rfl),?_⟩
 refine Ex.ret ?_
 obtain rfl:=sJ h
 exact rt (.sl (([[(⟨30,r_1,r_2,1,0⟩ : cC)],[(⟨70,r_3,r_4,1,0⟩ : cC)]] : List (List cC)).map (SV bF)) (some 2))
def pJ (N : Nat)  : Option ((List bL)):=some ([(⟨3,450,400⟩ : bL)])
def mI (r : (List bL)) : AV:=.sl (r.map aP) none
attribute [local simp] mI
theorem aBC  : [].mapM (ren []) = some []:=by simp
theorem aBt (r : (List bL)) (n n2 m : Nat) : back n n2 m (mI r) = some (mI r):=by simp
theorem aBf (N : Nat)  (r : (List bL)) (h : pJ N  = some r) : Does Tryz.prog 21 [] [] fun v c => v = mI r ∧ c = []:=by
 unfold pJ at h
 refine Does.ofL comp21 _ _ rfl rfl ?_
 refine Ex.seq (rg 1 [] (mkS 3 []) ⟨[],[]⟩ ?_)
 refine Ex.seq (rg 3 [0] (mkS 3 [(0,.sl (([(⟨3,450,400⟩ : bL)] : List bL).map aP) (some 0))]) ⟨[],[(1,3)]⟩ ?_)
 refine Ex.ret ?_
 obtain rfl:=sJ h
 exact rt (.sl (([(⟨3,450,400⟩ : bL)] : List bL).map aP) (some 0))
end
section
open Go.RowKit
set_option maxRecDepth 100000
def entS : List (aCV Tryz.prog):=[⟨90,F90,comp90⟩,⟨58,F58,comp58⟩,⟨61,F61,comp61⟩,⟨99,F99,comp99⟩,⟨100,F100,comp100⟩,⟨71,F71,comp71⟩,⟨72,F72,comp72⟩,⟨73,F73,comp73⟩,⟨98,F98,comp98⟩,⟨109,F109,comp109⟩,⟨87,F87,comp87⟩,⟨88,F88,comp88⟩,⟨89,F89,comp89⟩,⟨91,F91,comp91⟩,⟨92,F92,comp92⟩,⟨93,F93,comp93⟩,⟨94,F94,comp94⟩,⟨95,F95,comp95⟩,⟨101,F101,comp101⟩,⟨102,F102,comp102⟩,⟨103,F103,comp103⟩,⟨104,F104,comp104⟩,⟨105,F105,comp105⟩,⟨110,F110,comp110⟩,⟨111,F111,comp111⟩,⟨112,F112,comp112⟩,⟨113,F113,comp113⟩,⟨114,F114,comp114⟩,⟨115,F115,comp115⟩,⟨116,F116,comp116⟩,⟨117,F117,comp117⟩,⟨118,F118,comp118⟩]
noncomputable def XS : Clr:=clrN (aAh entS) (fun _ => false) aAm 300 14
theorem aHZ : eE Tryz.prog XS:=aBk (cP _) (xU entS) 300 14
def brS : List bL:=[⟨3,450,400⟩]
def flS (k : Int) (l : List cC) : bZ:=⟨100,30,20,80,50,k,50,40,l⟩
def ldA : List cC:=[⟨30,⟨10,20⟩,⟨50,60⟩,1,0⟩]
def ldB : List cC:=[⟨70,⟨200,300⟩,⟨30,30⟩,1,0⟩]
theorem aHM : evFn XS 300 F61 [bC (flS 100 ldA),.sl (brS.map aP) none] [] = some (.bool true,[]):=by kernel_rfl
theorem aHL : evFn XS 300 F61 [bC (flS 100 ldB),.sl (brS.map aP) none] [] = some (.bool true,[]):=by kernel_rfl
theorem aHK : evFn XS 300 F61 [bC (flS 400 ldA),.sl (brS.map aP) none] [] = some (.bool true,[]):=by kernel_rfl
theorem aHJ : evFn XS 300 F61 [bC (flS 400 ldB),.sl (brS.map aP) none] [] = some (.bool false,[]):=by kernel_rfl
def knS : List (List AV × Bool):=[([bC (flS 100 ldA),.sl (brS.map aP) none],true),([bC (flS 100 ldB),.sl (brS.map aP) none],true),([bC (flS 400 ldA),.sl (brS.map aP) none],true),([bC (flS 400 ldB),.sl (brS.map aP) none],false)]
def aDR : List (List AV × Bool) → List AV → Option Bool
 | [],_ => none
 | e :: l,x => bif beqL e.1 x then some e.2 else aDR l x
theorem aAo : ∀ (l : List (List AV × Bool)) (x : List AV) (r : Bool),aDR l x = some r → (x,r) ∈ l
 | [],_,_,h => by cases h
 | e :: l,x,r,h => by
  simp only [aDR] at h
  cases hc : beqL e.1 x with
  | true =>
   rw [hc,cond_true] at h
   cases h
   rw [← jH _ _ hc]
   exact List.mem_cons_self ..
  | false =>
   rw [hc,cond_false] at h
   exact List.mem_cons_of_mem _ (aAo l x r h)
theorem aHq : ∀ e ∈ knS,Does Tryz.prog 61 e.1 [] fun v c => v = .bool e.2 ∧ c = []:=by
 intro e he
 have key : ∀ {xs : List AV} {b : Bool},evFn XS 300 F61 xs [] = some (.bool b,[]) → Does Tryz.prog 61 xs [] fun v c => v = .bool b ∧ c = []:=fun h => mA.does ⟨_,_,mL aHZ comp61 h,rfl,rfl⟩
 simp only [knS,List.mem_cons,List.not_mem_nil,or_false] at he
 rcases he with rfl | rfl | rfl | rfl
 ·exact key aHM
 ·exact key aHL
 ·exact key aHK
 ·exact key aHJ
def lW (N : Nat) (f_1 : bZ) (route_2 : (List bL)) : Option (Bool):=aDR knS [bC f_1,.sl (route_2.map aP) none]
def fZ (r : Bool) : AV:=.bool r
attribute [local simp] fZ
theorem sO (f_1 : bZ) (route_2 : (List bL)) : [(bC f_1),.sl (route_2.map aP) none].mapM (ren []) = some [(bC f_1),.sl (route_2.map aP) none]:=by simp [ren,ren1,AV.plain,AV.plain1,AV.clean,bB,bC,dF,kM,jS]
theorem sI (r : Bool) (n n2 m : Nat) : back n n2 m (fZ r) = some (fZ r):=by simp [back,back1,AV.clean,AV.plain,AV.plain1]
theorem sD (N : Nat) (f_1 : bZ) (route_2 : (List bL)) (r : Bool) (h : lW N f_1 route_2 = some r) : Does Tryz.prog 61 [(bC f_1),.sl (route_2.map aP) none] [] fun v c => v = fZ r ∧ c = [] :=
 aHq _ (aAo _ _ _ h)
end
end Go.Proofs.YtildamklmoekaaaGreatDoor
