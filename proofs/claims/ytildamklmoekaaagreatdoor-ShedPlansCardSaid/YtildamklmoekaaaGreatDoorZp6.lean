/- Part 7 of what the law needs: own work, put together. -/
import Derived.Test.YtildamklmoekaaaGreatDoorZp5
set_option linter.unusedVariables false
set_option linter.unusedSimpArgs false
set_option maxRecDepth 10000
set_option maxHeartbeats 4000000
namespace Go.Proofs.YtildamklmoekaaaGreatDoor
section
open Go.RowKit
attribute [local simp] ren ren1 AV.plain AV.plain1 AV.clean bB fX dS gB fR dB dC fE dN cF cJ eV fY dK cZ jS sC kM kN cT aK aE aU aI aW aC aB aA aN bO bP eH dP fL eG aO aJ aQ aF aP bJ qB oG bF oH bC dF back back1 fadeS fadeV List.idxOf? List.findIdx? List.findIdx?.go re re1 nH oX zF vE rN kO nY qA lF jI wK aEe aEf aCS
def gL (N : Nat) (s_1 : (List Int)) : Option ((List Int)):=iO ([] : List Int) s_1
def oY (r : (List Int)) : AV:=.sl (r.map (AV.int .i64)) none
attribute [local simp] oY
def gK (N : Nat) (s_1 : (List Int)) (v_2 : Int) : Option (Int):=(letJ (fun (_ : Unit) => some (-1)) (fun k_3 => (loop1 (fun rec_7 (y_6 : Int) => (bif (decide (y_6 < ((s_1.length : Nat) : Int))) then ((getI s_1 y_6).bind fun x_11 => (bif (v_2 == x_11) then some y_6 else (rec_7 (IntKind.i64.wrap (y_6 + 1))))) else (k_3 ()))) N 0)))
def eL (r : Int) : AV:=i6 r
attribute [local simp] eL
theorem pY (s_1 : (List Int)) (v_2 : Int) : [.sl (s_1.map (AV.int .i64)) none,i6 v_2].mapM (ren []) = some [.sl (s_1.map (AV.int .i64)) none,i6 v_2]:=by simp
theorem pV (r : Int) (n n2 m : Nat) : back n n2 m (eL r) = some (eL r):=by simp
theorem pR (N : Nat) (s_1 : (List Int)) (v_2 : Int) (r : Int) (h : gK N s_1 v_2 = some r) : Does Tryz.prog 74 [.sl (s_1.map (AV.int .i64)) none,i6 v_2] [] fun v c => v = eL r ∧ c = []:=by
 unfold gK at h
 refine Does.ofL comp74 _ _ rfl rfl ?_
 refine Ex.seq (rg 1 [0,1] (mkS 19 [(0,.sl (s_1.map (AV.int .i64)) none),(1,i6 v_2)]) ⟨[],[]⟩ ?_)
 refine Ex.seq (Ex.seq ?_)
 refine regH 3 [(1,.eq (i6 ((s_1.length : Nat) : Int)))] [0,1,7,8] [AV.int .i64 (((s_1.map (AV.int .i64)).length : Nat) : Int) = AV.int .i64 ((s_1.length : Nat) : Int)] (mkS 19 [(0,.sl (s_1.map (AV.int .i64)) none),(1,i6 v_2),(7,i6 ((s_1.length : Nat) : Int)),(8,i6 0)]) (⟨[],[]⟩) (by kernel_rfl) ⟨lenM _ _,trivial⟩ rfl ?_
 obtain ⟨K_4,hK_5,h⟩:=letE h
 refine Ex.blockJ (fun a S => K_4 () = some r ∧ a = mkS 19 [] ∧ S = ⟨[],[]⟩) ?_ ?_
 ·obtain ⟨B_8,hB_9,h⟩:=iU h
  refine Ex.loopF (fun k a S => ∃ (y_6 : Int),loop1 B_8 k y_6 = some r ∧ a = mkS 19 [(0,.sl (s_1.map (AV.int .i64)) none),(1,i6 v_2),(7,i6 ((s_1.length : Nat) : Int)),(8,i6 y_6)] ∧ S = ⟨[],[]⟩) N ⟨_,_,aM.refl _ _ _,0,h,rfl,rfl⟩ ?_
  rintro k a S ⟨y_6,h,rfl,rfl⟩
  cases k with
  | zero => exact (iS h).elim
  | succ k =>
   replace h:=iT h hB_9
   refine Ex.seq (rg 1 [0,1,7,8,9] (mkS 19 [(0,.sl (s_1.map (AV.int .i64)) none),(1,i6 v_2),(7,i6 ((s_1.length : Nat) : Int)),(8,i6 y_6),(9,.bool (decide (y_6 < ((s_1.length : Nat) : Int))))]) ⟨[],[]⟩ ?_)
   refine Ex.seq ?_
   rcases aY h with ⟨hc_10,h⟩ | ⟨hc_10,h⟩
   ·refine Ex.condT _ rfl hc_10 ?_
    refine Ex.skip ?_
    refine Ex.seq ?_
    refine Ex.blockK ?_
    refine Ex.seq (rg 2 [0,1,5,7,8] (mkS 19 [(0,.sl (s_1.map (AV.int .i64)) none),(1,i6 v_2),(5,i6 y_6),(7,i6 ((s_1.length : Nat) : Int)),(8,i6 y_6)]) ⟨[],[]⟩ ?_)
    refine Ex.seq ?_
    obtain ⟨x_11,hx_11,h⟩:=bE h
    refine regH 6 [(3,.rop [i6 x_11])] [0,1,5,7,8,16] [LGet (s_1.map (AV.int .i64)) y_6 1 [i6 x_11]] (mkS 19 [(0,.sl (s_1.map (AV.int .i64)) none),(1,i6 v_2),(5,i6 y_6),(7,i6 ((s_1.length : Nat) : Int)),(8,i6 y_6),(16,.bool (v_2 == x_11))]) (⟨[],[]⟩) (by kernel_rfl) ⟨LGet.of hx_11 rfl,trivial⟩ rfl ?_
    rcases aY h with ⟨hc_12,h⟩ | ⟨hc_12,h⟩
    ·refine Ex.condT _ rfl hc_12 ?_
     refine Ex.seq (rg 2 [4] (mkS 19 [(4,i6 y_6)]) ⟨[],[]⟩ ?_)
     refine Ex.ret ?_
     obtain rfl:=sJ h
     exact rt (i6 y_6)
    ·refine Ex.condF _ rfl hc_12 ?_
     refine Ex.skip ?_
     refine rg 2 [0,1,7,8] (mkS 19 [(0,.sl (s_1.map (AV.int .i64)) none),(1,i6 v_2),(7,i6 ((s_1.length : Nat) : Int)),(8,i6 (IntKind.i64.wrap (y_6 + 1)))]) ⟨[],[]⟩ ?_
     dsimp only
     exact ⟨_,_,aM.refl _ _ _,k,Nat.lt_succ_self k,(IntKind.i64.wrap (y_6 + 1)),h,rfl,rfl⟩
   ·refine Ex.condF _ rfl hc_10 ?_
    refine Ex.exit ?_
    (try simp only [reduceCtorEq,AEx.ex.injEq,Nat.reduceEqDiff,if_true,if_false])
    exact ⟨_,_,bQ [],h,rfl,rfl⟩
 ·rintro a S ⟨h,rfl,rfl⟩
  subst hK_5
  refine Ex.seq (rg 1 [4] (mkS 19 [(4,i6 (-1))]) ⟨[],[]⟩ ?_)
  refine Ex.ret ?_
  obtain rfl:=sJ h
  exact rt (i6 (-1))
def fI (N : Nat) (s_1 : (List Int)) (v_2 : Int) : Option (Bool):=((gK N s_1 v_2).bind fun r_3 => some (decide (r_3 ≥ 0)))
def iN (r : Bool) : AV:=.bool r
attribute [local simp] iN
theorem nI (N : Nat) (s_1 : (List Int)) (v_2 : Int) (r : Bool) (h : fI N s_1 v_2 = some r) : Does Tryz.prog 64 [.sl (s_1.map (AV.int .i64)) none,i6 v_2] [] fun v c => v = iN r ∧ c = []:=by
 unfold fI at h
 refine Does.ofL comp64 _ _ rfl rfl ?_
 refine Ex.seq (rg 1 [0,1] (mkS 9 [(0,.sl (s_1.map (AV.int .i64)) none),(1,i6 v_2)]) ⟨[],[]⟩ ?_)
 refine Ex.seq ?_
 obtain ⟨r_3,hr_3,h⟩:=bE h
 refine Ex.reg (rn 2 [5,6] (mkS 9 [(5,.sl (s_1.map (AV.int .i64)) none),(6,i6 v_2)]) ⟨[],[]⟩ ?_)
 refine ExO.callL [] [.sl (s_1.map (AV.int .i64)) none,i6 v_2] rfl rfl (pY s_1 v_2) rfl rfl (pR N s_1 v_2 r_3 hr_3) (pV _ _ _ _) rfl ?_
 refine rn 2 [4] (mkS 9 [(4,.bool (decide (r_3 ≥ 0)))]) ⟨[],[]⟩ ?_
 refine ExO.nil ?_
 refine Ex.ret ?_
 obtain rfl:=sJ h
 exact rt (.bool (decide (r_3 ≥ 0)))
theorem pD (N : Nat) (s_1 : (List Int)) (r : (List Int)) (h : gL N s_1 = some r) : aAF Tryz.prog ⟨63,[.sl (s_1.map (AV.int .i64)) none],r.map (AV.int .i64),r.length,1⟩:=by
 refine ⟨?_,(fX _ _),by simp⟩
 unfold gL at h
 refine aCW.of comp63 ?_
 refine Ex.seq (rg 1 [0] (mkS 8 [(0,.sl (s_1.map (AV.int .i64)) none)]) ⟨[],[]⟩ ?_)
 refine Ex.seq (Ex.seq ?_)
 refine Ex.reg (rn 1 [0,3] (mkS 8 [(0,.sl (s_1.map (AV.int .i64)) none),(3,.sl (s_1.map (AV.int .i64)) none)]) ⟨[],[]⟩ ?_)
 refine ExO.isNil false (.tmp 3) (s_1.map (AV.int .i64)) rfl rfl rfl (fun b hb => ?_)
 refine rn 0 [0,4] (mkS 8 [(0,.sl (s_1.map (AV.int .i64)) none),(4,.bool (b != false))]) ⟨[],[]⟩ ?_
 refine ExO.nil ?_
 cases b
 ·refine Ex.condF (false != false) rfl rfl ?_
  refine Ex.skip ?_
  refine Ex.seq ?_
  refine regH 4 [(2,.apps (s_1.map (AV.int .i64)) (r.map (AV.int .i64)) r.length)] [2] [lQ 0 (([] : List Int).map (AV.int .i64)) (s_1.map (AV.int .i64)) (s_1.map (AV.int .i64)) 1 (r.map (AV.int .i64)) r.length] (mkS 8 [(2,.sl (r.map (AV.int .i64)) (some 0))]) (⟨[],[(r.length,1)]⟩) (by kernel_rfl) ⟨lQ.of h (fun _ => rfl) (fun _ => rfl) (fun _ => rfl),trivial⟩ rfl ?_
  refine Ex.ret ?_
  exact ⟨.inr rfl,.sl (r.map (AV.int .i64)) (some 0),by kernel_rfl,0,rfl,rfl⟩
 ·have hl : s_1 = []:=List.map_eq_nil_iff.1 (hb rfl)
  subst hl
  have hr : r = []:=by simpa [iO] using h.symm
  subst hr
  refine Ex.condT (true != false) rfl rfl ?_
  refine Ex.seq (rg 1 [2] (mkS 8 [(2,.nils)]) ⟨[],[]⟩ ?_)
  refine Ex.forget (nilK 2 1 rfl) ?_
  refine Ex.ret ?_
  exact ⟨.inr rfl,.sl [] (some 0),by kernel_rfl,0,rfl,rfl⟩
def kS (N : Nat) (table_1 : (List (List Bool))) (designs_2 : Int) : Option ((List Int)):=((mkI designs_2).bind fun k_3 => (letJ (fun (b_17 : List Int) (b_18 : Int) (w_19 : List Int) => some b_17) (fun k_83 => ((loop5 (ρ:=((List Int) × Int × (List Int))) (fun rec_20 (design_12 : Int) (given_13 : Int) (b_14 : List Int) (b_15 : Int) (w_16 : List Int) => (bif (design_12 == designs_2) then (bif (decide (given_13 > b_15)) then (((lenI w_16 k_3).bind fun (_ : Unit) => (gL N w_16)).bind fun r_30 => some (r_30,given_13,w_16)) else some (b_14,b_15,w_16)) else (letJ (fun (b_31 : List Int) (b_32 : Int) (w_33 : List Int) => ((idxI design_12 k_3).bind fun u_72 => ((setI w_33 design_12 (fun (y_73 : Int) => (-1))).bind fun z_74 => (letJ (fun (b_77 : List Int) (b_78 : Int) (w_79 : List Int) => some (b_77,b_78,w_79)) (fun k_80 => ((rec_20 (IntKind.i64.wrap (design_12 + 1)) given_13 b_31 b_32 z_74).bind fun s_75 => ((fun t => k_80 t.1 t.2.1 t.2.2) s_75))))))) (fun k_34 => (loop4 (fun rec_41 (y_37 : Int) (b_38 : List Int) (b_39 : Int) (w_40 : List Int) => (bif (decide (y_37 < ((table_1.length : Nat) : Int))) then (letJ (fun (b_45 : List Int) (b_46 : Int) (w_47 : List Int) => (rec_41 (IntKind.i64.wrap (y_37 + 1)) b_45 b_46 w_47)) (fun k_48 => ((getI table_1 y_37).bind fun x_51 => (letJ (fun (y_52 : Bool) => (bif y_52 then ((idxI design_12 k_3).bind fun u_61 => ((setI w_40 design_12 (fun (y_62 : Int) => y_37)).bind fun z_63 => (letJ (fun (b_66 : List Int) (b_67 : Int) (w_68 : List Int) => (k_48 b_66 b_67 w_68)) (fun k_69 => ((rec_20 (IntKind.i64.wrap (design_12 + 1)) (IntKind.i64.wrap (given_13 + 1)) b_38 b_39 z_63).bind fun s_64 => ((fun t => k_69 t.1 t.2.1 t.2.2) s_64)))))) else (k_48 b_38 b_39 w_40))) (fun k_53 => ((getI x_51 design_12).bind fun x_56 => (bif x_56 then ((cutL w_40 k_3 design_12).bind fun l_58 => ((fI N l_58 y_37).bind fun r_59 => (k_53 (!r_59)))) else (k_53 false)))))))) else (k_34 b_38 b_39 w_40))) N 0 b_14 b_15 w_16))))) N 0 0 [] (-1) (List.replicate k_3 0)).bind fun s_26 => ((fun t => k_83 t.1 t.2.1 t.2.2) s_26)))))
def iK (r : (List Int)) : AV:=.sl (r.map (AV.int .i64)) none
attribute [local simp] iK
theorem wI (table_1 : (List (List Bool))) (designs_2 : Int) : [.sl (table_1.map (SV AV.bool)) none,i6 designs_2].mapM (ren []) = some [.sl (table_1.map (SV AV.bool)) none,i6 designs_2]:=by simp
theorem wC (r : (List Int)) (n n2 m : Nat) : back n n2 m (iK r) = some (iK r):=by simp
theorem vW (N : Nat) (table_1 : (List (List Bool))) (designs_2 : Int) (r : (List Int)) (h : kS N table_1 designs_2 = some r) : Does Tryz.prog 43 [.sl (table_1.map (SV AV.bool)) none,i6 designs_2] [] fun v c => v = iK r ∧ c = []:=by
 unfold kS at h
 refine Does.ofL comp43 _ _ rfl rfl ?_
 refine Ex.seq (rg 3 [2,3] (mkS 15 [(2,.ptr 0 0),(3,.ptr 1 0)]) ⟨[[.sl (table_1.map (SV AV.bool)) none],[i6 designs_2]],[]⟩ ?_)
 refine Ex.seq (rg 1 [2,3,5] (mkS 15 [(2,.ptr 0 0),(3,.ptr 1 0),(5,.ptr 2 0)]) ⟨[[.sl (table_1.map (SV AV.bool)) none],[i6 designs_2],[.nils]],[]⟩ ?_)
 refine Ex.seq (rg 2 [2,3,5,6] (mkS 15 [(2,.ptr 0 0),(3,.ptr 1 0),(5,.ptr 2 0),(6,.ptr 3 0)]) ⟨[[.sl (table_1.map (SV AV.bool)) none],[i6 designs_2],[.nils],[i6 (-1)]],[]⟩ ?_)
 refine Ex.seq ?_
 obtain ⟨k_3,hk_3,h⟩:=bE h
 refine regH 4 [(1,.mk (flat ((List.replicate k_3 0).map (AV.int .i64))) k_3)] [2,3,5,6,7] [designs_2 = ((k_3 : Nat) : Int) ∧ k_3 ≤ 65536 ∧ rep [i6 0] k_3 = (flat ((List.replicate k_3 0).map (AV.int .i64)))] (mkS 15 [(2,.ptr 0 0),(3,.ptr 1 0),(5,.ptr 2 0),(6,.ptr 3 0),(7,.ptr 5 0)]) (⟨[[.sl (table_1.map (SV AV.bool)) none],[i6 designs_2],[.nils],[i6 (-1)],(flat ((List.replicate k_3 0).map (AV.int .i64))),[.ms 4 k_3 1]],[]⟩) (by kernel_rfl) ⟨aHP (f:=(AV.int .i64)) 0 rfl hk_3,trivial⟩ rfl ?_
 refine Ex.seq (rg 1 [2,3,5,6,7,8] (mkS 15 [(2,.ptr 0 0),(3,.ptr 1 0),(5,.ptr 2 0),(6,.ptr 3 0),(7,.ptr 5 0),(8,.ptr 6 0)]) ⟨[[.sl (table_1.map (SV AV.bool)) none],[i6 designs_2],[.nils],[i6 (-1)],(flat ((List.replicate k_3 0).map (AV.int .i64))),[.ms 4 k_3 1],[.nilf]],[]⟩ ?_)
 refine Ex.seq (rg 2 [5,8] (mkS 15 [(5,.ptr 2 0),(8,.ptr 6 0)]) ⟨[[.sl (table_1.map (SV AV.bool)) none],[i6 designs_2],[.nils],[i6 (-1)],(flat ((List.replicate k_3 0).map (AV.int .i64))),[.ms 4 k_3 1],[.fn 62 [] [.ptr 1 0,.ptr 3 0,.ptr 5 0,.ptr 2 0,.ptr 0 0,.ptr 6 0]]],[]⟩ ?_)
 refine Ex.seq ?_
 refine Ex.reg (rn 1 [5,12] (mkS 15 [(5,.ptr 2 0),(12,.fn 62 [] [.ptr 1 0,.ptr 3 0,.ptr 5 0,.ptr 2 0,.ptr 0 0,.ptr 6 0])]) ⟨[[.sl (table_1.map (SV AV.bool)) none],[i6 designs_2],[.nils],[i6 (-1)],(flat ((List.replicate k_3 0).map (AV.int .i64))),[.ms 4 k_3 1],[.fn 62 [] [.ptr 1 0,.ptr 3 0,.ptr 5 0,.ptr 2 0,.ptr 0 0,.ptr 6 0]]],[]⟩ ?_)
 refine ExO.forget (nilF 2 0 [.nils] rfl rfl) ?_
 refine ExO.castA (a2:=mkS 15 [(5,.ptr 2 0),(12,.fn 62 [] [.ptr 1 0,.ptr 3 0,.ptr 5 0,.ptr 2 0,.ptr 0 0,.ptr 6 0])]) (S2:=⟨[[.sl (table_1.map (SV AV.bool)) none],[i6 designs_2],[.sl (([] : List Int).map (AV.int .i64)) none],[i6 (-1)],(flat ((List.replicate k_3 0).map (AV.int .i64))),[.ms 4 k_3 1],[.fn 62 [] [.ptr 1 0,.ptr 3 0,.ptr 5 0,.ptr 2 0,.ptr 0 0,.ptr 6 0]]],[]⟩) (by kernel_rfl) (by kernel_rfl) ?_
 obtain ⟨K_84,hK_85,h⟩:=letE h
 obtain ⟨s_26,hs_27,h⟩:=bE h
 obtain ⟨B_21,hB_22,hs_27⟩:=aHn hs_27
 have hY_25 : ∀ (k : Nat) (design_12 : Int) (given_13 : Int) (b_14 : List Int) (b_15 : Int) (w_16 : List Int) (r : ((List Int) × Int × (List Int))),loop5 B_21 k design_12 given_13 b_14 b_15 w_16 = some r → ∀ (cx_8 : Cx),cx_8.n = 7 → cx_8.m = 0 → (∀ L' a' ps' x' y',LpOk Tryz.prog (Cx.nat 0) L' a' ps' x' y' → LpOk Tryz.prog cx_8 L' a' ps' x' y') → Ex cx_8 .plain Tryz.prog F62.code (mkS 59 [(0,i6 design_12),(1,i6 given_13),(2,.ptr 1 0),(3,.ptr 3 0),(4,.ptr 5 0),(5,.ptr 2 0),(6,.ptr 0 0),(7,.ptr 6 0),(8,.tup []),(9,.tup []),(10,.tup []),(11,.tup []),(12,.tup []),(13,.tup []),(14,.tup []),(15,.tup []),(16,.tup []),(17,.tup []),(18,.tup []),(19,.tup []),(20,.tup []),(21,.tup []),(22,.tup []),(23,.tup []),(24,.tup []),(25,.tup []),(26,.tup []),(27,.tup []),(28,.tup []),(29,.tup []),(30,.tup []),(31,.tup []),(32,.tup []),(33,.tup []),(34,.tup []),(35,.tup []),(36,.tup []),(37,.tup []),(38,.tup []),(39,.tup []),(40,.tup []),(41,.tup []),(42,.tup []),(43,.tup []),(44,.tup []),(45,.tup []),(46,.tup []),(47,.tup []),(48,.tup []),(49,.tup []),(50,.tup []),(51,.tup []),(52,.tup []),(53,.tup []),(54,.tup []),(55,.tup []),(56,.tup []),(57,.tup []),(58,.tup [])]) (⟨[[.sl (table_1.map (SV AV.bool)) none],[i6 designs_2],[.sl (b_14.map (AV.int .i64)) none],[i6 b_15],(flat (w_16.map (AV.int .i64))),[.ms 4 k_3 1],[.fn 62 [] [.ptr 1 0,.ptr 3 0,.ptr 5 0,.ptr 2 0,.ptr 0 0,.ptr 6 0]]],[]⟩) fun z a' S' => ∃ a2 S2,aM cx_8 a' S' a2 S2 ∧ (z = .norm ∨ z = .ret) ∧ ∃ v,iE a2 S2 F62.res = some v ∧ (fun v S => (∃ (b_17 : List Int),∃ (b_18 : Int),∃ (w_19 : List Int),(b_17,b_18,w_19) = r ∧ v = .tup [] ∧ S = ⟨[[.sl (table_1.map (SV AV.bool)) none],[i6 designs_2],[.sl (b_17.map (AV.int .i64)) none],[i6 b_18],(flat (w_19.map (AV.int .i64))),[.ms 4 k_3 1],[.fn 62 [] [.ptr 1 0,.ptr 3 0,.ptr 5 0,.ptr 2 0,.ptr 0 0,.ptr 6 0]]],[]⟩)) v S2:=by
  intro k_23
  induction k_23 with
  | zero => intro design_12 given_13 b_14 b_15 w_16 r h; exact (aHl h).elim
  | succ k ih_24 =>
   intro design_12 given_13 b_14 b_15 w_16 r h cx_8 hcn_9 hcm_10 hup_11
   replace h:=aHm h hB_22
   refine Ex.seq (Ex.seq ?_)
   refine rg 3 [0,1,3,4,5,6,7,14] (mkS 59 [(0,i6 design_12),(1,i6 given_13),(3,.ptr 3 0),(4,.ptr 5 0),(5,.ptr 2 0),(6,.ptr 0 0),(7,.ptr 6 0),(14,.bool (design_12 == designs_2))]) ⟨[[.sl (table_1.map (SV AV.bool)) none],[i6 designs_2],[.sl (b_14.map (AV.int .i64)) none],[i6 b_15],(flat (w_16.map (AV.int .i64))),[.ms 4 k_3 1],[.fn 62 [] [.ptr 1 0,.ptr 3 0,.ptr 5 0,.ptr 2 0,.ptr 0 0,.ptr 6 0]]],[]⟩ ?_
   rcases aY h with ⟨hc_28,h⟩ | ⟨hc_28,h⟩
   ·refine Ex.condT _ rfl hc_28 ?_
    refine Ex.seq (Ex.seq ?_)
    refine rg 3 [1,3,4,5,17] (mkS 59 [(1,i6 given_13),(3,.ptr 3 0),(4,.ptr 5 0),(5,.ptr 2 0),(17,.bool (decide (given_13 > b_15)))]) ⟨[[.sl (table_1.map (SV AV.bool)) none],[i6 designs_2],[.sl (b_14.map (AV.int .i64)) none],[i6 b_15],(flat (w_16.map (AV.int .i64))),[.ms 4 k_3 1],[.fn 62 [] [.ptr 1 0,.ptr 3 0,.ptr 5 0,.ptr 2 0,.ptr 0 0,.ptr 6 0]]],[]⟩ ?_
    rcases aY h with ⟨hc_29,h⟩ | ⟨hc_29,h⟩
    ·refine Ex.condT _ rfl hc_29 ?_
     obtain ⟨r_30,hr_30,h⟩:=bE h
     refine Ex.reg (rn 1 [1,3,5,18] (mkS 59 [(1,i6 given_13),(3,.ptr 3 0),(5,.ptr 2 0),(18,.ms 4 k_3 1)]) ⟨[[.sl (table_1.map (SV AV.bool)) none],[i6 designs_2],[.sl (b_14.map (AV.int .i64)) none],[i6 b_15],(flat (w_16.map (AV.int .i64))),[.ms 4 k_3 1],[.fn 62 [] [.ptr 1 0,.ptr 3 0,.ptr 5 0,.ptr 2 0,.ptr 0 0,.ptr 6 0]]],[]⟩ ?_)
     refine ExO.callLendP (pD N w_16 r_30 (aGR hr_30).2) (aAu (f:=(AV.int .i64)) (fun _ => rfl) _) [(4,1,w_16.map (AV.int .i64),[])] [.ms 4 k_3 1] rfl rfl (by exact ⟨.s 0 rfl ((aGR hr_30).1.symm.trans (List.length_map ..).symm),trivial⟩) ⟨⟨(by show some _ = some _; rw [List.append_nil]),show 0 < 1 by decide,fun i e he => mN (f:=(AV.int .i64)) (s:=1) (fun _ => rfl) _ e (List.mem_of_getElem? he),(tJ (f:=(AV.int .i64)) (fun _ => rfl) _),show 4 ∉ ([] : List Nat) by decide⟩,trivial⟩ ?_
     refine rn 3 [] (mkS 59 []) ⟨[[.sl (table_1.map (SV AV.bool)) none],[i6 designs_2],[.sl (r_30.map (AV.int .i64)) none],[i6 given_13],(flat (w_16.map (AV.int .i64))),[.ms 4 k_3 1],[.fn 62 [] [.ptr 1 0,.ptr 3 0,.ptr 5 0,.ptr 2 0,.ptr 0 0,.ptr 6 0]]],[]⟩ ?_
     refine ExO.nil ?_
     refine Ex.ret ?_
     obtain rfl:=sJ h
     exact ⟨_,_,aM.refl _ _ _,.inr rfl,_,by kernel_rfl,⟨r_30,given_13,w_16,rfl,rfl,rfl⟩⟩
    ·refine Ex.condF _ rfl hc_29 ?_
     refine Ex.skip ?_
     refine Ex.ret ?_
     obtain rfl:=sJ h
     exact ⟨_,_,bQ [],.inr rfl,_,by kernel_rfl,⟨b_14,b_15,w_16,rfl,rfl,rfl⟩⟩
   ·refine Ex.condF _ rfl hc_28 ?_
    refine Ex.skip ?_
    refine Ex.seq (Ex.seq ?_)
    refine regH 3 [(1,.eq (i6 ((table_1.length : Nat) : Int)))] [0,1,4,7,21,22,23] [AV.int .i64 (((table_1.map (SV AV.bool)).length : Nat) : Int) = AV.int .i64 ((table_1.length : Nat) : Int)] (mkS 59 [(0,i6 design_12),(1,i6 given_13),(4,.ptr 5 0),(7,.ptr 6 0),(21,.sl (table_1.map (SV AV.bool)) none),(22,i6 ((table_1.length : Nat) : Int)),(23,i6 0)]) (⟨[[.sl (table_1.map (SV AV.bool)) none],[i6 designs_2],[.sl (b_14.map (AV.int .i64)) none],[i6 b_15],(flat (w_16.map (AV.int .i64))),[.ms 4 k_3 1],[.fn 62 [] [.ptr 1 0,.ptr 3 0,.ptr 5 0,.ptr 2 0,.ptr 0 0,.ptr 6 0]]],[]⟩) (by kernel_rfl) ⟨lenM _ _,trivial⟩ rfl ?_
    obtain ⟨K_35,hK_36,h⟩:=letE h
    refine Ex.blockJ (fun a S => ∃ (b_31 : List Int),∃ (b_32 : Int),∃ (w_33 : List Int),K_35 b_31 b_32 w_33 = some r ∧ a = mkS 59 [(0,i6 design_12),(1,i6 given_13),(4,.ptr 5 0),(7,.ptr 6 0)] ∧ S = ⟨[[.sl (table_1.map (SV AV.bool)) none],[i6 designs_2],[.sl (b_31.map (AV.int .i64)) none],[i6 b_32],(flat (w_33.map (AV.int .i64))),[.ms 4 k_3 1],[.fn 62 [] [.ptr 1 0,.ptr 3 0,.ptr 5 0,.ptr 2 0,.ptr 0 0,.ptr 6 0]]],[]⟩) ?_ ?_
    ·obtain ⟨B_42,hB_43,h⟩:=aFf h
     refine Ex.loopF (fun k a S => ∃ (y_37 : Int),∃ (b_38 : List Int),∃ (b_39 : Int),∃ (w_40 : List Int),loop4 B_42 k y_37 b_38 b_39 w_40 = some r ∧ a = mkS 59 [(0,i6 design_12),(1,i6 given_13),(4,.ptr 5 0),(7,.ptr 6 0),(21,.sl (table_1.map (SV AV.bool)) none),(22,i6 ((table_1.length : Nat) : Int)),(23,i6 y_37)] ∧ S = ⟨[[.sl (table_1.map (SV AV.bool)) none],[i6 designs_2],[.sl (b_38.map (AV.int .i64)) none],[i6 b_39],(flat (w_40.map (AV.int .i64))),[.ms 4 k_3 1],[.fn 62 [] [.ptr 1 0,.ptr 3 0,.ptr 5 0,.ptr 2 0,.ptr 0 0,.ptr 6 0]]],[]⟩) N ⟨_,_,aM.refl _ _ _,0,b_14,b_15,w_16,h,rfl,rfl⟩ ?_
     rintro k a S ⟨y_37,b_38,b_39,w_40,h,rfl,rfl⟩
     cases k with
     | zero => exact (aFd h).elim
     | succ k =>
      replace h:=aFe h hB_43
      refine Ex.seq (rg 1 [0,1,4,7,21,22,23,24] (mkS 59 [(0,i6 design_12),(1,i6 given_13),(4,.ptr 5 0),(7,.ptr 6 0),(21,.sl (table_1.map (SV AV.bool)) none),(22,i6 ((table_1.length : Nat) : Int)),(23,i6 y_37),(24,.bool (decide (y_37 < ((table_1.length : Nat) : Int))))]) ⟨[[.sl (table_1.map (SV AV.bool)) none],[i6 designs_2],[.sl (b_38.map (AV.int .i64)) none],[i6 b_39],(flat (w_40.map (AV.int .i64))),[.ms 4 k_3 1],[.fn 62 [] [.ptr 1 0,.ptr 3 0,.ptr 5 0,.ptr 2 0,.ptr 0 0,.ptr 6 0]]],[]⟩ ?_)
      refine Ex.seq ?_
      rcases aY h with ⟨hc_44,h⟩ | ⟨hc_44,h⟩
      ·refine Ex.condT _ rfl hc_44 ?_
       refine Ex.skip ?_
       refine Ex.seq ?_
       obtain ⟨K_49,hK_50,h⟩:=letE h
       refine Ex.blockJ (fun a S => ∃ (b_45 : List Int),∃ (b_46 : Int),∃ (w_47 : List Int),K_49 b_45 b_46 w_47 = some r ∧ a = mkS 59 [(0,i6 design_12),(1,i6 given_13),(4,.ptr 5 0),(7,.ptr 6 0),(21,.sl (table_1.map (SV AV.bool)) none),(22,i6 ((table_1.length : Nat) : Int)),(23,i6 y_37)] ∧ S = ⟨[[.sl (table_1.map (SV AV.bool)) none],[i6 designs_2],[.sl (b_45.map (AV.int .i64)) none],[i6 b_46],(flat (w_47.map (AV.int .i64))),[.ms 4 k_3 1],[.fn 62 [] [.ptr 1 0,.ptr 3 0,.ptr 5 0,.ptr 2 0,.ptr 0 0,.ptr 6 0]]],[]⟩) ?_ ?_
       ·refine Ex.seq ?_
        obtain ⟨x_51,hx_51,h⟩:=bE h
        refine regH 5 [(1,.rop [.sl (x_51.map AV.bool) none])] [0,1,4,7,10,11,21,22,23] [LGet (table_1.map (SV AV.bool)) y_37 1 [.sl (x_51.map AV.bool) none]] (mkS 59 [(0,i6 design_12),(1,i6 given_13),(4,.ptr 5 0),(7,.ptr 6 0),(10,i6 y_37),(11,.sl (x_51.map AV.bool) none),(21,.sl (table_1.map (SV AV.bool)) none),(22,i6 ((table_1.length : Nat) : Int)),(23,i6 y_37)]) (⟨[[.sl (table_1.map (SV AV.bool)) none],[i6 designs_2],[.sl (b_38.map (AV.int .i64)) none],[i6 b_39],(flat (w_40.map (AV.int .i64))),[.ms 4 k_3 1],[.fn 62 [] [.ptr 1 0,.ptr 3 0,.ptr 5 0,.ptr 2 0,.ptr 0 0,.ptr 6 0]]],[]⟩) (by kernel_rfl) ⟨LGet.of hx_51 rfl,trivial⟩ rfl ?_
        obtain ⟨K_54,hK_55,h⟩:=letE h
        refine Ex.seqJ (fun a S => ∃ (y_52 : Bool),K_54 y_52 = some r ∧ a = mkS 59 [(0,i6 design_12),(1,i6 given_13),(4,.ptr 5 0),(7,.ptr 6 0),(10,i6 y_37),(21,.sl (table_1.map (SV AV.bool)) none),(22,i6 ((table_1.length : Nat) : Int)),(23,i6 y_37),(39,.bool y_52)] ∧ S = ⟨[[.sl (table_1.map (SV AV.bool)) none],[i6 designs_2],[.sl (b_38.map (AV.int .i64)) none],[i6 b_39],(flat (w_40.map (AV.int .i64))),[.ms 4 k_3 1],[.fn 62 [] [.ptr 1 0,.ptr 3 0,.ptr 5 0,.ptr 2 0,.ptr 0 0,.ptr 6 0]]],[]⟩) ?_ ?_
        ·obtain ⟨x_56,hx_56,h⟩:=bE h
         rcases aY h with ⟨hc_57,h⟩ | ⟨hc_57,h⟩
         ·obtain ⟨l_58,hl_58,h⟩:=bE h
          refine Ex.reg ?_
          refine runH 7 [(2,.rop [.bool x_56]),(4,.eq (.bool true))] [0,1,4,7,10,21,22,23,32,33,34] [LGet (x_51.map AV.bool) design_12 1 [.bool x_56],AV.bool x_56 = AV.bool true] (mkS 59 [(0,i6 design_12),(1,i6 given_13),(4,.ptr 5 0),(7,.ptr 6 0),(10,i6 y_37),(21,.sl (table_1.map (SV AV.bool)) none),(22,i6 ((table_1.length : Nat) : Int)),(23,i6 y_37),(32,.bool true),(33,.ms 4 k_3 1),(34,i6 design_12)]) (⟨[[.sl (table_1.map (SV AV.bool)) none],[i6 designs_2],[.sl (b_38.map (AV.int .i64)) none],[i6 b_39],(flat (w_40.map (AV.int .i64))),[.ms 4 k_3 1],[.fn 62 [] [.ptr 1 0,.ptr 3 0,.ptr 5 0,.ptr 2 0,.ptr 0 0,.ptr 6 0]]],[]⟩) (by kernel_rfl) ⟨LGet.of hx_56 rfl,congrArg AV.bool hc_57,trivial⟩ ?_
          refine ExO.slcM l_58.length rfl rfl rfl rfl (cutL.of hl_58).1 (cutL.of hl_58).2 ?_
          obtain ⟨r_59,hr_59,h⟩:=bE h
          refine rn 1 [0,1,4,7,10,21,22,23,32,35,36] (mkS 59 [(0,i6 design_12),(1,i6 given_13),(4,.ptr 5 0),(7,.ptr 6 0),(10,i6 y_37),(21,.sl (table_1.map (SV AV.bool)) none),(22,i6 ((table_1.length : Nat) : Int)),(23,i6 y_37),(32,.bool true),(35,.ms 4 l_58.length 1),(36,i6 y_37)]) ⟨[[.sl (table_1.map (SV AV.bool)) none],[i6 designs_2],[.sl (b_38.map (AV.int .i64)) none],[i6 b_39],(flat (w_40.map (AV.int .i64))),[.ms 4 k_3 1],[.fn 62 [] [.ptr 1 0,.ptr 3 0,.ptr 5 0,.ptr 2 0,.ptr 0 0,.ptr 6 0]]],[]⟩ ?_
          refine ExO.callLend [(4,1,l_58.map (AV.int .i64),flat ((w_40.drop l_58.length).map (AV.int .i64)))] [] [.ms 4 l_58.length 1,i6 y_37] rfl rfl (by exact ⟨.s 0 rfl (List.length_map ..).symm,⟨.n (by simp; try rfl),trivial⟩⟩) ⟨⟨(by show some _ = some _; rw [cutL.flat hl_58 (AV.int .i64)]),show 0 < 1 by decide,fun i e he => mN (f:=(AV.int .i64)) (s:=1) (fun _ => rfl) _ e (List.mem_of_getElem? he),(tJ (f:=(AV.int .i64)) (fun _ => rfl) _),show 4 ∉ ([] : List Nat) by decide⟩,trivial⟩ rfl rfl (nI N l_58 y_37 r_59 hr_59) rfl rfl rfl ?_
          refine rn 2 [0,1,4,7,10,21,22,23,39] (mkS 59 [(0,i6 design_12),(1,i6 given_13),(4,.ptr 5 0),(7,.ptr 6 0),(10,i6 y_37),(21,.sl (table_1.map (SV AV.bool)) none),(22,i6 ((table_1.length : Nat) : Int)),(23,i6 y_37),(39,.bool (!r_59))]) ⟨[[.sl (table_1.map (SV AV.bool)) none],[i6 designs_2],[.sl (b_38.map (AV.int .i64)) none],[i6 b_39],(flat (w_40.map (AV.int .i64))),[.ms 4 k_3 1],[.fn 62 [] [.ptr 1 0,.ptr 3 0,.ptr 5 0,.ptr 2 0,.ptr 0 0,.ptr 6 0]]],[]⟩ ?_
          refine ExO.nil ?_
          (try simp only [reduceCtorEq,AEx.ex.injEq,Nat.reduceEqDiff,if_true,if_false])
          exact ⟨_,_,aM.refl _ _ _,(!r_59),h,rfl,rfl⟩
         ·refine regH 12 [(2, .rop [.bool x_56]), (4, .eq (.bool false))] [0, 1, 4, 7, 10, 21, 22, 23, 39] [LGet (x_51.map AV.bool) design_12 1 [.bool x_56], AV.bool x_56 = AV.bool false] (mkS 59 [(0, i6 design_12), (1, i6 given_13), (4, .ptr 5 0), (7, .ptr 6 0), (10, i6 y_37), (21, .sl (table_1.map (SV AV.bool)) none), (22, i6 ((table_1.length : Nat) : Int)), (23, i6 y_37), (39, .bool false)]) (⟨[[.sl (table_1.map (SV AV.bool)) none], [i6 designs_2], [.sl (b_38.map (AV.int .i64)) none], [i6 b_39], (flat (w_40.map (AV.int .i64))), [.ms 4 k_3 1], [.fn 62 [] [.ptr 1 0, .ptr 3 0, .ptr 5 0, .ptr 2 0, .ptr 0 0, .ptr 6 0]]], []⟩) (by kernel_rfl) ⟨LGet.of hx_56 rfl, congrArg AV.bool hc_57, trivial⟩ rfl ?_
          (try simp only [reduceCtorEq,AEx.ex.injEq,Nat.reduceEqDiff,if_true,if_false])
          exact ⟨_,_,aM.refl _ _ _,false,h,rfl,rfl⟩
        ·rintro a S ⟨y_52,h,rfl,rfl⟩
         subst hK_55
         rcases aY h with ⟨hc_60,h⟩ | ⟨hc_60,h⟩
         ·refine Ex.condT _ rfl hc_60 ?_
          refine Ex.seq ?_
          obtain ⟨u_61,hu_61,h⟩:=bE h
          obtain ⟨z_63,hz_63,h⟩:=bE h
          refine regH 5 [(3,.adm),(4,.st (flat (z_63.map (AV.int .i64))))] [0,1,4,7,21,22,23] [0 ≤ design_12 ∧ design_12 < ((k_3 : Nat) : Int),0 + Int.toNat design_12 * 1 + 1 ≤ ((flat (w_40.map (AV.int .i64)))).length ∧ hH (flat (w_40.map (AV.int .i64))) (0 + Int.toNat design_12 * 1) [i6 y_37] = (flat (z_63.map (AV.int .i64)))] (mkS 59 [(0,i6 design_12),(1,i6 given_13),(4,.ptr 5 0),(7,.ptr 6 0),(21,.sl (table_1.map (SV AV.bool)) none),(22,i6 ((table_1.length : Nat) : Int)),(23,i6 y_37)]) (⟨[[.sl (table_1.map (SV AV.bool)) none],[i6 designs_2],[.sl (b_38.map (AV.int .i64)) none],[i6 b_39],(flat (z_63.map (AV.int .i64))),[.ms 4 k_3 1],[.fn 62 [] [.ptr 1 0,.ptr 3 0,.ptr 5 0,.ptr 2 0,.ptr 0 0,.ptr 6 0]]],[]⟩) (by kernel_rfl) ⟨idxI.of hu_61,stFl (f:=(AV.int .i64)) (s:=1) _ 0 1 design_12 (fun (y_62 : Int) => y_37) _ (fun _ => rfl) hz_63 rfl (by decide) (by omega) (fun _ => rfl),trivial⟩ rfl ?_
          refine Ex.reg (rn 5 [0,1,4,7,21,22,23,44,46,48] (mkS 59 [(0,i6 design_12),(1,i6 given_13),(4,.ptr 5 0),(7,.ptr 6 0),(21,.sl (table_1.map (SV AV.bool)) none),(22,i6 ((table_1.length : Nat) : Int)),(23,i6 y_37),(44,.fn 62 [] [.ptr 1 0,.ptr 3 0,.ptr 5 0,.ptr 2 0,.ptr 0 0,.ptr 6 0]),(46,i6 (IntKind.i64.wrap (design_12 + 1))),(48,i6 (IntKind.i64.wrap (given_13 + 1)))]) ⟨[[.sl (table_1.map (SV AV.bool)) none],[i6 designs_2],[.sl (b_38.map (AV.int .i64)) none],[i6 b_39],(flat (z_63.map (AV.int .i64))),[.ms 4 k_3 1],[.fn 62 [] [.ptr 1 0,.ptr 3 0,.ptr 5 0,.ptr 2 0,.ptr 0 0,.ptr 6 0]]],[]⟩ ?_)
          obtain ⟨K_70,hK_71,h⟩:=letE h
          obtain ⟨s_64,hs_65,h⟩:=bE h
          refine ExO.inlY (fun v S => (∃ (b_66 : List Int),∃ (b_67 : Int),∃ (w_68 : List Int),(b_66,b_67,w_68) = s_64 ∧ v = .tup [] ∧ S = ⟨[[.sl (table_1.map (SV AV.bool)) none],[i6 designs_2],[.sl (b_66.map (AV.int .i64)) none],[i6 b_67],(flat (w_68.map (AV.int .i64))),[.ms 4 k_3 1],[.fn 62 [] [.ptr 1 0,.ptr 3 0,.ptr 5 0,.ptr 2 0,.ptr 0 0,.ptr 6 0]]],[]⟩)) 62 [i6 (IntKind.i64.wrap (design_12 + 1)),i6 (IntKind.i64.wrap (given_13 + 1)),.ptr 1 0,.ptr 3 0,.ptr 5 0,.ptr 2 0,.ptr 0 0,.ptr 6 0] _ comp62 (leC hcn_9 (by simp [bD])) rfl (by kernel_rfl) (mkS 59 [(0,i6 (IntKind.i64.wrap (design_12 + 1))),(1,i6 (IntKind.i64.wrap (given_13 + 1))),(2,.ptr 1 0),(3,.ptr 3 0),(4,.ptr 5 0),(5,.ptr 2 0),(6,.ptr 0 0),(7,.ptr 6 0),(8,.tup []),(9,.tup []),(10,.tup []),(11,.tup []),(12,.tup []),(13,.tup []),(14,.tup []),(15,.tup []),(16,.tup []),(17,.tup []),(18,.tup []),(19,.tup []),(20,.tup []),(21,.tup []),(22,.tup []),(23,.tup []),(24,.tup []),(25,.tup []),(26,.tup []),(27,.tup []),(28,.tup []),(29,.tup []),(30,.tup []),(31,.tup []),(32,.tup []),(33,.tup []),(34,.tup []),(35,.tup []),(36,.tup []),(37,.tup []),(38,.tup []),(39,.tup []),(40,.tup []),(41,.tup []),(42,.tup []),(43,.tup []),(44,.tup []),(45,.tup []),(46,.tup []),(47,.tup []),(48,.tup []),(49,.tup []),(50,.tup []),(51,.tup []),(52,.tup []),(53,.tup []),(54,.tup []),(55,.tup []),(56,.tup []),(57,.tup []),(58,.tup [])]) (by kernel_rfl) (fun c1 g1 g2 g3 => ih_24 (IntKind.i64.wrap (design_12 + 1)) (IntKind.i64.wrap (given_13 + 1)) b_38 b_39 z_63 _ hs_65 c1 g1 g2 (fun _ _ _ _ _ hq => g3 _ _ _ _ _ (hup_11 _ _ _ _ _ hq))) ?_
          rintro v S (⟨b_66,b_67,w_68,rfl,rfl,rfl⟩)
          replace h : K_70 b_66 b_67 w_68 = some r:=h
          subst hK_71
          refine rn 0 [0,1,4,7,21,22,23] (mkS 59 [(0,i6 design_12),(1,i6 given_13),(4,.ptr 5 0),(7,.ptr 6 0),(21,.sl (table_1.map (SV AV.bool)) none),(22,i6 ((table_1.length : Nat) : Int)),(23,i6 y_37)]) ⟨[[.sl (table_1.map (SV AV.bool)) none],[i6 designs_2],[.sl (b_66.map (AV.int .i64)) none],[i6 b_67],(flat (w_68.map (AV.int .i64))),[.ms 4 k_3 1],[.fn 62 [] [.ptr 1 0,.ptr 3 0,.ptr 5 0,.ptr 2 0,.ptr 0 0,.ptr 6 0]]],[]⟩ ?_
          refine ExO.nil ?_
          (try simp only [reduceCtorEq,AEx.ex.injEq,Nat.reduceEqDiff,if_true,if_false])
          exact ⟨_,_,aM.refl _ _ _,b_66,b_67,w_68,h,rfl,rfl⟩
         ·refine Ex.condF _ rfl hc_60 ?_
          refine Ex.skip ?_
          (try simp only [reduceCtorEq,AEx.ex.injEq,Nat.reduceEqDiff,if_true,if_false])
          exact ⟨_,_,bQ [0,1,4,7,21,22,23],b_38,b_39,w_40,h,rfl,rfl⟩
       ·rintro a S ⟨b_45,b_46,w_47,h,rfl,rfl⟩
        subst hK_50
        refine rg 2 [0,1,4,7,21,22,23] (mkS 59 [(0,i6 design_12),(1,i6 given_13),(4,.ptr 5 0),(7,.ptr 6 0),(21,.sl (table_1.map (SV AV.bool)) none),(22,i6 ((table_1.length : Nat) : Int)),(23,i6 (IntKind.i64.wrap (y_37 + 1)))]) ⟨[[.sl (table_1.map (SV AV.bool)) none],[i6 designs_2],[.sl (b_45.map (AV.int .i64)) none],[i6 b_46],(flat (w_47.map (AV.int .i64))),[.ms 4 k_3 1],[.fn 62 [] [.ptr 1 0,.ptr 3 0,.ptr 5 0,.ptr 2 0,.ptr 0 0,.ptr 6 0]]],[]⟩ ?_
        dsimp only
        exact ⟨_,_,aM.refl _ _ _,k,Nat.lt_succ_self k,(IntKind.i64.wrap (y_37 + 1)),b_45,b_46,w_47,h,rfl,rfl⟩
      ·refine Ex.condF _ rfl hc_44 ?_
       refine Ex.exit ?_
       (try simp only [reduceCtorEq,AEx.ex.injEq,Nat.reduceEqDiff,if_true,if_false])
       exact ⟨_,_,bQ [0,1,4,7],b_38,b_39,w_40,h,rfl,rfl⟩
    ·rintro a S ⟨b_31,b_32,w_33,h,rfl,rfl⟩
     subst hK_36
     refine Ex.seq ?_
     obtain ⟨u_72,hu_72,h⟩:=bE h
     obtain ⟨z_74,hz_74,h⟩:=bE h
     refine regH 4 [(2,.adm),(3,.st (flat (z_74.map (AV.int .i64))))] [0,1,7] [0 ≤ design_12 ∧ design_12 < ((k_3 : Nat) : Int),0 + Int.toNat design_12 * 1 + 1 ≤ ((flat (w_33.map (AV.int .i64)))).length ∧ hH (flat (w_33.map (AV.int .i64))) (0 + Int.toNat design_12 * 1) [i6 (-1)] = (flat (z_74.map (AV.int .i64)))] (mkS 59 [(0,i6 design_12),(1,i6 given_13),(7,.ptr 6 0)]) (⟨[[.sl (table_1.map (SV AV.bool)) none],[i6 designs_2],[.sl (b_31.map (AV.int .i64)) none],[i6 b_32],(flat (z_74.map (AV.int .i64))),[.ms 4 k_3 1],[.fn 62 [] [.ptr 1 0,.ptr 3 0,.ptr 5 0,.ptr 2 0,.ptr 0 0,.ptr 6 0]]],[]⟩) (by kernel_rfl) ⟨idxI.of hu_72,stFl (f:=(AV.int .i64)) (s:=1) _ 0 1 design_12 (fun (y_73 : Int) => (-1)) _ (fun _ => rfl) hz_74 rfl (by decide) (by omega) (fun _ => rfl),trivial⟩ rfl ?_
     refine Ex.reg (rn 4 [54,56,57] (mkS 59 [(54,.fn 62 [] [.ptr 1 0,.ptr 3 0,.ptr 5 0,.ptr 2 0,.ptr 0 0,.ptr 6 0]),(56,i6 (IntKind.i64.wrap (design_12 + 1))),(57,i6 given_13)]) ⟨[[.sl (table_1.map (SV AV.bool)) none],[i6 designs_2],[.sl (b_31.map (AV.int .i64)) none],[i6 b_32],(flat (z_74.map (AV.int .i64))),[.ms 4 k_3 1],[.fn 62 [] [.ptr 1 0,.ptr 3 0,.ptr 5 0,.ptr 2 0,.ptr 0 0,.ptr 6 0]]],[]⟩ ?_)
     obtain ⟨K_81,hK_82,h⟩:=letE h
     obtain ⟨s_75,hs_76,h⟩:=bE h
     refine ExO.inlY (fun v S => (∃ (b_77 : List Int),∃ (b_78 : Int),∃ (w_79 : List Int),(b_77,b_78,w_79) = s_75 ∧ v = .tup [] ∧ S = ⟨[[.sl (table_1.map (SV AV.bool)) none],[i6 designs_2],[.sl (b_77.map (AV.int .i64)) none],[i6 b_78],(flat (w_79.map (AV.int .i64))),[.ms 4 k_3 1],[.fn 62 [] [.ptr 1 0,.ptr 3 0,.ptr 5 0,.ptr 2 0,.ptr 0 0,.ptr 6 0]]],[]⟩)) 62 [i6 (IntKind.i64.wrap (design_12 + 1)),i6 given_13,.ptr 1 0,.ptr 3 0,.ptr 5 0,.ptr 2 0,.ptr 0 0,.ptr 6 0] _ comp62 (leC hcn_9 (by simp [bD])) rfl (by kernel_rfl) (mkS 59 [(0,i6 (IntKind.i64.wrap (design_12 + 1))),(1,i6 given_13),(2,.ptr 1 0),(3,.ptr 3 0),(4,.ptr 5 0),(5,.ptr 2 0),(6,.ptr 0 0),(7,.ptr 6 0),(8,.tup []),(9,.tup []),(10,.tup []),(11,.tup []),(12,.tup []),(13,.tup []),(14,.tup []),(15,.tup []),(16,.tup []),(17,.tup []),(18,.tup []),(19,.tup []),(20,.tup []),(21,.tup []),(22,.tup []),(23,.tup []),(24,.tup []),(25,.tup []),(26,.tup []),(27,.tup []),(28,.tup []),(29,.tup []),(30,.tup []),(31,.tup []),(32,.tup []),(33,.tup []),(34,.tup []),(35,.tup []),(36,.tup []),(37,.tup []),(38,.tup []),(39,.tup []),(40,.tup []),(41,.tup []),(42,.tup []),(43,.tup []),(44,.tup []),(45,.tup []),(46,.tup []),(47,.tup []),(48,.tup []),(49,.tup []),(50,.tup []),(51,.tup []),(52,.tup []),(53,.tup []),(54,.tup []),(55,.tup []),(56,.tup []),(57,.tup []),(58,.tup [])]) (by kernel_rfl) (fun c1 g1 g2 g3 => ih_24 (IntKind.i64.wrap (design_12 + 1)) given_13 b_31 b_32 z_74 _ hs_76 c1 g1 g2 (fun _ _ _ _ _ hq => g3 _ _ _ _ _ (hup_11 _ _ _ _ _ hq))) ?_
     rintro v S (⟨b_77,b_78,w_79,rfl,rfl,rfl⟩)
     replace h : K_81 b_77 b_78 w_79 = some r:=h
     subst hK_82
     refine rn 0 [] (mkS 59 []) ⟨[[.sl (table_1.map (SV AV.bool)) none],[i6 designs_2],[.sl (b_77.map (AV.int .i64)) none],[i6 b_78],(flat (w_79.map (AV.int .i64))),[.ms 4 k_3 1],[.fn 62 [] [.ptr 1 0,.ptr 3 0,.ptr 5 0,.ptr 2 0,.ptr 0 0,.ptr 6 0]]],[]⟩ ?_
     refine ExO.nil ?_
     obtain rfl:=sJ h
     exact ⟨_,_,aM.refl _ _ _,.inl rfl,_,by kernel_rfl,⟨b_77,b_78,w_79,rfl,rfl,rfl⟩⟩
 refine ExO.inlY (fun v S => (∃ (b_17 : List Int),∃ (b_18 : Int),∃ (w_19 : List Int),(b_17,b_18,w_19) = s_26 ∧ v = .tup [] ∧ S = ⟨[[.sl (table_1.map (SV AV.bool)) none],[i6 designs_2],[.sl (b_17.map (AV.int .i64)) none],[i6 b_18],(flat (w_19.map (AV.int .i64))),[.ms 4 k_3 1],[.fn 62 [] [.ptr 1 0,.ptr 3 0,.ptr 5 0,.ptr 2 0,.ptr 0 0,.ptr 6 0]]],[]⟩)) 62 [i6 0,i6 0,.ptr 1 0,.ptr 3 0,.ptr 5 0,.ptr 2 0,.ptr 0 0,.ptr 6 0] _ comp62 (by simp [bD]) rfl (by kernel_rfl) (mkS 59 [(0,i6 0),(1,i6 0),(2,.ptr 1 0),(3,.ptr 3 0),(4,.ptr 5 0),(5,.ptr 2 0),(6,.ptr 0 0),(7,.ptr 6 0),(8,.tup []),(9,.tup []),(10,.tup []),(11,.tup []),(12,.tup []),(13,.tup []),(14,.tup []),(15,.tup []),(16,.tup []),(17,.tup []),(18,.tup []),(19,.tup []),(20,.tup []),(21,.tup []),(22,.tup []),(23,.tup []),(24,.tup []),(25,.tup []),(26,.tup []),(27,.tup []),(28,.tup []),(29,.tup []),(30,.tup []),(31,.tup []),(32,.tup []),(33,.tup []),(34,.tup []),(35,.tup []),(36,.tup []),(37,.tup []),(38,.tup []),(39,.tup []),(40,.tup []),(41,.tup []),(42,.tup []),(43,.tup []),(44,.tup []),(45,.tup []),(46,.tup []),(47,.tup []),(48,.tup []),(49,.tup []),(50,.tup []),(51,.tup []),(52,.tup []),(53,.tup []),(54,.tup []),(55,.tup []),(56,.tup []),(57,.tup []),(58,.tup [])]) (by kernel_rfl) (fun c1 g1 g2 g3 => hY_25 N 0 0 [] (-1) (List.replicate k_3 0) _ hs_27 c1 g1 g2 g3) ?_
 rintro v S (⟨b_17,b_18,w_19,rfl,rfl,rfl⟩)
 replace h : K_84 b_17 b_18 w_19 = some r:=h
 subst hK_85
 refine rn 0 [5] (mkS 15 [(5,.ptr 2 0)]) ⟨[[.sl (table_1.map (SV AV.bool)) none],[i6 designs_2],[.sl (b_17.map (AV.int .i64)) none],[i6 b_18],(flat (w_19.map (AV.int .i64))),[.ms 4 k_3 1],[.fn 62 [] [.ptr 1 0,.ptr 3 0,.ptr 5 0,.ptr 2 0,.ptr 0 0,.ptr 6 0]]],[]⟩ ?_
 refine ExO.nil ?_
 refine Ex.seq (rg 2 [4] (mkS 15 [(4,.sl (b_17.map (AV.int .i64)) none)]) ⟨[[.sl (table_1.map (SV AV.bool)) none],[i6 designs_2],[.sl (b_17.map (AV.int .i64)) none],[i6 b_18],(flat (w_19.map (AV.int .i64))),[.ms 4 k_3 1],[.fn 62 [] [.ptr 1 0,.ptr 3 0,.ptr 5 0,.ptr 2 0,.ptr 0 0,.ptr 6 0]]],[]⟩ ?_)
 refine Ex.ret ?_
 obtain rfl:=sJ h
 exact rt (.sl (b_17.map (AV.int .i64)) none)
def oA (N : Nat) (frame_1 : bZ) (design_2 : (List cC)) (a_3 : (List bL)) : Option (Bool):=((lW N (⟨frame_1.Length,frame_1.Width,frame_1.Front,frame_1.Rear,frame_1.Turn,frame_1.Kilos,frame_1.Middle,frame_1.High,design_2⟩ : bZ) a_3).bind fun r_4 => some r_4)
def kZ (r : Bool) : AV:=.bool r
attribute [local simp] kZ
theorem zV (r : Bool) (n n2 m : Nat) : back n n2 m (kZ r) = some (kZ r):=by simp
theorem zN (N : Nat) (frame_1 : bZ) (design_2 : (List cC)) (a_3 : (List bL)) (r : Bool) (h : oA N frame_1 design_2 a_3 = some r) : Does Tryz.prog 60 [(bC frame_1),.sl (design_2.map bF) none,.ptr 0 0] [[.sl (a_3.map aP) none]] fun v c => v = kZ r ∧ c = [[.sl (a_3.map aP) none]]:=by
 unfold oA at h
 refine Does.ofL comp60 _ _ rfl rfl ?_
 refine Ex.seq (rg 2 [1,2,3] (mkS 11 [(1,.sl (design_2.map bF) none),(2,.ptr 0 0),(3,.ptr 1 0)]) ⟨[[.sl (a_3.map aP) none],(dF frame_1)],[]⟩ ?_)
 refine Ex.seq (rg 3 [2,3] (mkS 11 [(2,.ptr 0 0),(3,.ptr 1 0)]) ⟨[[.sl (a_3.map aP) none],[i6 frame_1.Length,i6 frame_1.Width,i6 frame_1.Front,i6 frame_1.Rear,i6 frame_1.Turn,i6 frame_1.Kilos,i6 frame_1.Middle,i6 frame_1.High,.sl (design_2.map bF) none]],[]⟩ ?_)
 refine Ex.seq ?_
 obtain ⟨r_4,hr_4,h⟩:=bE h
 refine Ex.reg (rn 2 [8,9] (mkS 11 [(8,.agg [i6 frame_1.Length,i6 frame_1.Width,i6 frame_1.Front,i6 frame_1.Rear,i6 frame_1.Turn,i6 frame_1.Kilos,i6 frame_1.Middle,i6 frame_1.High,.sl (design_2.map bF) none]),(9,.sl (a_3.map aP) none)]) ⟨[[.sl (a_3.map aP) none],[i6 frame_1.Length,i6 frame_1.Width,i6 frame_1.Front,i6 frame_1.Rear,i6 frame_1.Turn,i6 frame_1.Kilos,i6 frame_1.Middle,i6 frame_1.High,.sl (design_2.map bF) none]],[]⟩ ?_)
 refine ExO.callL [] [.agg [i6 frame_1.Length,i6 frame_1.Width,i6 frame_1.Front,i6 frame_1.Rear,i6 frame_1.Turn,i6 frame_1.Kilos,i6 frame_1.Middle,i6 frame_1.High,.sl (design_2.map bF) none],.sl (a_3.map aP) none] rfl rfl (sO (⟨frame_1.Length,frame_1.Width,frame_1.Front,frame_1.Rear,frame_1.Turn,frame_1.Kilos,frame_1.Middle,frame_1.High,design_2⟩ : bZ) a_3) rfl rfl (sD N (⟨frame_1.Length,frame_1.Width,frame_1.Front,frame_1.Rear,frame_1.Turn,frame_1.Kilos,frame_1.Middle,frame_1.High,design_2⟩ : bZ) a_3 r_4 hr_4) (sI _ _ _ _) rfl ?_
 refine rn 1 [5] (mkS 11 [(5,.bool r_4)]) ⟨[[.sl (a_3.map aP) none],[i6 frame_1.Length,i6 frame_1.Width,i6 frame_1.Front,i6 frame_1.Rear,i6 frame_1.Turn,i6 frame_1.Kilos,i6 frame_1.Middle,i6 frame_1.High,.sl (design_2.map bF) none]],[]⟩ ?_
 refine ExO.nil ?_
 refine Ex.ret ?_
 obtain rfl:=sJ h
 exact rt (.bool r_4)
def cW (N : Nat) (list_1 : (List bZ)) (others_2 : (List (List cC))) (a_3 : (List bL)) : Option ((List (List Bool))):=(letJ (fun (table_4 : List (List Bool)) => some table_4) (fun k_5 => (loop2 (fun rec_10 (table_8 : List (List Bool)) (y_9 : Int) => (bif (decide (y_9 < ((list_1.length : Nat) : Int))) then ((getI list_1 y_9).bind fun x_14 => (letJ (fun (row_15 : List Bool) => ((iO table_8 ([row_15] : List (List Bool))).bind fun l_28 => (rec_10 l_28 (IntKind.i64.wrap (y_9 + 1))))) (fun k_16 => (loop2 (fun rec_21 (row_19 : List Bool) (y_20 : Int) => (bif (decide (y_20 < ((others_2.length : Nat) : Int))) then ((getI others_2 y_20).bind fun x_25 => ((oA N x_14 x_25 a_3).bind fun r_26 => ((iO row_19 ([r_26] : List Bool)).bind fun l_27 => (rec_21 l_27 (IntKind.i64.wrap (y_20 + 1)))))) else (k_16 row_19))) N [] 0)))) else (k_5 table_8))) N [] 0)))
def bY (r : (List (List Bool))) : AV:=.sl (r.map (SV AV.bool)) none
attribute [local simp] bY
theorem iG (r : (List (List Bool))) (n n2 m : Nat) : back n n2 m (bY r) = some (bY r):=by simp
theorem iF (N : Nat) (list_1 : (List bZ)) (others_2 : (List (List cC))) (a_3 : (List bL)) (r : (List (List Bool))) (h : cW N list_1 others_2 a_3 = some r) : Does Tryz.prog 59 [.sl (list_1.map bC) none,.sl (others_2.map (SV bF)) none,.fn 60 [] [.ptr 0 0]] [[.sl (a_3.map aP) none]] fun v c => v = bY r ∧ c = [[.sl (a_3.map aP) none]]:=by
 unfold cW at h
 refine Does.ofL comp59 _ _ rfl rfl ?_
 refine Ex.seq (rg 1 [0,1,2] (mkS 39 [(0,.sl (list_1.map bC) none),(1,.sl (others_2.map (SV bF)) none),(2,.fn 60 [] [.ptr 0 0])]) ⟨[[.sl (a_3.map aP) none]],[]⟩ ?_)
 refine Ex.seq (rg 1 [0,1,2,7] (mkS 39 [(0,.sl (list_1.map bC) none),(1,.sl (others_2.map (SV bF)) none),(2,.fn 60 [] [.ptr 0 0]),(7,.nils)]) ⟨[[.sl (a_3.map aP) none]],[]⟩ ?_)
 refine Ex.seq (Ex.seq ?_)
 refine regH 3 [(1,.eq (i6 ((list_1.length : Nat) : Int)))] [1,2,7,13,14,15] [AV.int .i64 (((list_1.map bC).length : Nat) : Int) = AV.int .i64 ((list_1.length : Nat) : Int)] (mkS 39 [(1,.sl (others_2.map (SV bF)) none),(2,.fn 60 [] [.ptr 0 0]),(7,.nils),(13,.sl (list_1.map bC) none),(14,i6 ((list_1.length : Nat) : Int)),(15,i6 0)]) (⟨[[.sl (a_3.map aP) none]],[]⟩) (by kernel_rfl) ⟨lenM _ _,trivial⟩ rfl ?_
 obtain ⟨K_6,hK_7,h⟩:=letE h
 refine Ex.blockJ (fun a S => ∃ (table_4 : List (List Bool)),K_6 table_4 = some r ∧ a = mkS 39 [(7,.sl (table_4.map (SV AV.bool)) (some 0))] ∧ S = ⟨[[.sl (a_3.map aP) none]],[(table_4.length,1)]⟩) ?_ ?_
 ·refine Ex.forget (nilK 7 1 rfl) ?_
  refine Ex.castA (a2:=mkS 39 [(1,.sl (others_2.map (SV bF)) none),(2,.fn 60 [] [.ptr 0 0]),(7,.sl (([] : List (List Bool)).map (SV AV.bool)) (some 0)),(13,.sl (list_1.map bC) none),(14,i6 ((list_1.length : Nat) : Int)),(15,i6 0)]) (S2:=⟨[[.sl (a_3.map aP) none]],[(0,1)]⟩) (by kernel_rfl) (by kernel_rfl) ?_
  obtain ⟨B_11,hB_12,h⟩:=gP h
  refine Ex.loopF (fun k a S => ∃ (table_8 : List (List Bool)),∃ (y_9 : Int),loop2 B_11 k table_8 y_9 = some r ∧ a = mkS 39 [(1,.sl (others_2.map (SV bF)) none),(2,.fn 60 [] [.ptr 0 0]),(7,.sl (table_8.map (SV AV.bool)) (some 0)),(13,.sl (list_1.map bC) none),(14,i6 ((list_1.length : Nat) : Int)),(15,i6 y_9)] ∧ S = ⟨[[.sl (a_3.map aP) none]],[(table_8.length,1)]⟩) N ⟨_,_,aM.refl _ _ _,[],0,h,rfl,rfl⟩ ?_
  rintro k a S ⟨table_8,y_9,h,rfl,rfl⟩
  cases k with
  | zero => exact (gN h).elim
  | succ k =>
   replace h:=gO h hB_12
   refine Ex.seq (rg 1 [1,2,7,13,14,15,16] (mkS 39 [(1,.sl (others_2.map (SV bF)) none),(2,.fn 60 [] [.ptr 0 0]),(7,.sl (table_8.map (SV AV.bool)) (some 0)),(13,.sl (list_1.map bC) none),(14,i6 ((list_1.length : Nat) : Int)),(15,i6 y_9),(16,.bool (decide (y_9 < ((list_1.length : Nat) : Int))))]) ⟨[[.sl (a_3.map aP) none]],[(table_8.length,1)]⟩ ?_)
   refine Ex.seq ?_
   rcases aY h with ⟨hc_13,h⟩ | ⟨hc_13,h⟩
   ·refine Ex.condT _ rfl hc_13 ?_
    refine Ex.skip ?_
    refine Ex.seq ?_
    refine Ex.blockK ?_
    refine Ex.seq ?_
    obtain ⟨x_14,hx_14,h⟩:=bE h
    refine regH 4 [(0,.rop (dF x_14))] [1,2,7,9,13,14,15] [LGet (list_1.map bC) y_9 9 (dF x_14)] (mkS 39 [(1,.sl (others_2.map (SV bF)) none),(2,.fn 60 [] [.ptr 0 0]),(7,.sl (table_8.map (SV AV.bool)) (some 0)),(9,.ptr 1 0),(13,.sl (list_1.map bC) none),(14,i6 ((list_1.length : Nat) : Int)),(15,i6 y_9)]) (⟨[[.sl (a_3.map aP) none],(dF x_14)],[(table_8.length,1)]⟩) (by kernel_rfl) ⟨LGet.of hx_14 rfl,trivial⟩ rfl ?_
    refine Ex.seq (rg 1 [1,2,7,9,10,13,14,15] (mkS 39 [(1,.sl (others_2.map (SV bF)) none),(2,.fn 60 [] [.ptr 0 0]),(7,.sl (table_8.map (SV AV.bool)) (some 0)),(9,.ptr 1 0),(10,.nils),(13,.sl (list_1.map bC) none),(14,i6 ((list_1.length : Nat) : Int)),(15,i6 y_9)]) ⟨[[.sl (a_3.map aP) none],(dF x_14)],[(table_8.length,1)]⟩ ?_)
    refine Ex.seq (Ex.seq ?_)
    refine regH 3 [(1,.eq (i6 ((others_2.length : Nat) : Int)))] [1,2,7,9,10,13,14,15,19,20,21] [AV.int .i64 (((others_2.map (SV bF)).length : Nat) : Int) = AV.int .i64 ((others_2.length : Nat) : Int)] (mkS 39 [(1,.sl (others_2.map (SV bF)) none),(2,.fn 60 [] [.ptr 0 0]),(7,.sl (table_8.map (SV AV.bool)) (some 0)),(9,.ptr 1 0),(10,.nils),(13,.sl (list_1.map bC) none),(14,i6 ((list_1.length : Nat) : Int)),(15,i6 y_9),(19,.sl (others_2.map (SV bF)) none),(20,i6 ((others_2.length : Nat) : Int)),(21,i6 0)]) (⟨[[.sl (a_3.map aP) none],(dF x_14)],[(table_8.length,1)]⟩) (by kernel_rfl) ⟨lenM _ _,trivial⟩ rfl ?_
    obtain ⟨K_17,hK_18,h⟩:=letE h
    refine Ex.blockJ (fun a S => ∃ (row_15 : List Bool),K_17 row_15 = some r ∧ a = mkS 39 [(1,.sl (others_2.map (SV bF)) none),(2,.fn 60 [] [.ptr 0 0]),(7,.sl (table_8.map (SV AV.bool)) (some 0)),(10,.sl (row_15.map AV.bool) (some 1)),(13,.sl (list_1.map bC) none),(14,i6 ((list_1.length : Nat) : Int)),(15,i6 y_9)] ∧ S = ⟨[[.sl (a_3.map aP) none]],[(table_8.length,1),(row_15.length,1)]⟩) ?_ ?_
    ·refine Ex.forget (nilK 10 1 rfl) ?_
     refine Ex.castA (a2:=mkS 39 [(1,.sl (others_2.map (SV bF)) none),(2,.fn 60 [] [.ptr 0 0]),(7,.sl (table_8.map (SV AV.bool)) (some 0)),(9,.ptr 1 0),(10,.sl (([] : List Bool).map AV.bool) (some 1)),(13,.sl (list_1.map bC) none),(14,i6 ((list_1.length : Nat) : Int)),(15,i6 y_9),(19,.sl (others_2.map (SV bF)) none),(20,i6 ((others_2.length : Nat) : Int)),(21,i6 0)]) (S2:=⟨[[.sl (a_3.map aP) none],(dF x_14)],[(table_8.length,1),(0,1)]⟩) (by kernel_rfl) (by kernel_rfl) ?_
     obtain ⟨B_22,hB_23,h⟩:=gP h
     refine Ex.loopF (fun k a S => ∃ (row_19 : List Bool),∃ (y_20 : Int),loop2 B_22 k row_19 y_20 = some r ∧ a = mkS 39 [(1,.sl (others_2.map (SV bF)) none),(2,.fn 60 [] [.ptr 0 0]),(7,.sl (table_8.map (SV AV.bool)) (some 0)),(9,.ptr 1 0),(10,.sl (row_19.map AV.bool) (some 1)),(13,.sl (list_1.map bC) none),(14,i6 ((list_1.length : Nat) : Int)),(15,i6 y_9),(19,.sl (others_2.map (SV bF)) none),(20,i6 ((others_2.length : Nat) : Int)),(21,i6 y_20)] ∧ S = ⟨[[.sl (a_3.map aP) none],(dF x_14)],[(table_8.length,1),(row_19.length,1)]⟩) N ⟨_,_,aM.refl _ _ _,[],0,h,rfl,rfl⟩ ?_
     rintro k a S ⟨row_19,y_20,h,rfl,rfl⟩
     cases k with
     | zero => exact (gN h).elim
     | succ k =>
      replace h:=gO h hB_23
      refine Ex.seq (rg 1 [1,2,7,9,10,13,14,15,19,20,21,22] (mkS 39 [(1,.sl (others_2.map (SV bF)) none),(2,.fn 60 [] [.ptr 0 0]),(7,.sl (table_8.map (SV AV.bool)) (some 0)),(9,.ptr 1 0),(10,.sl (row_19.map AV.bool) (some 1)),(13,.sl (list_1.map bC) none),(14,i6 ((list_1.length : Nat) : Int)),(15,i6 y_9),(19,.sl (others_2.map (SV bF)) none),(20,i6 ((others_2.length : Nat) : Int)),(21,i6 y_20),(22,.bool (decide (y_20 < ((others_2.length : Nat) : Int))))]) ⟨[[.sl (a_3.map aP) none],(dF x_14)],[(table_8.length,1),(row_19.length,1)]⟩ ?_)
      refine Ex.seq ?_
      rcases aY h with ⟨hc_24,h⟩ | ⟨hc_24,h⟩
      ·refine Ex.condT _ rfl hc_24 ?_
       refine Ex.skip ?_
       refine Ex.seq ?_
       refine Ex.blockK ?_
       refine Ex.seq ?_
       obtain ⟨x_25,hx_25,h⟩:=bE h
       refine regH 3 [(0,.rop [.sl (x_25.map bF) none])] [1,2,7,9,10,12,13,14,15,19,20,21] [LGet (others_2.map (SV bF)) y_20 1 [.sl (x_25.map bF) none]] (mkS 39 [(1,.sl (others_2.map (SV bF)) none),(2,.fn 60 [] [.ptr 0 0]),(7,.sl (table_8.map (SV AV.bool)) (some 0)),(9,.ptr 1 0),(10,.sl (row_19.map AV.bool) (some 1)),(12,.sl (x_25.map bF) none),(13,.sl (list_1.map bC) none),(14,i6 ((list_1.length : Nat) : Int)),(15,i6 y_9),(19,.sl (others_2.map (SV bF)) none),(20,i6 ((others_2.length : Nat) : Int)),(21,i6 y_20)]) (⟨[[.sl (a_3.map aP) none],(dF x_14)],[(table_8.length,1),(row_19.length,1)]⟩) (by kernel_rfl) ⟨LGet.of hx_25 rfl,trivial⟩ rfl ?_
       obtain ⟨r_26,hr_26,h⟩:=bE h
       refine Ex.reg (rn 4 [1,2,7,9,13,14,15,19,20,21,25,26,27,28] (mkS 39 [(1,.sl (others_2.map (SV bF)) none),(2,.fn 60 [] [.ptr 0 0]),(7,.sl (table_8.map (SV AV.bool)) (some 0)),(9,.ptr 1 0),(13,.sl (list_1.map bC) none),(14,i6 ((list_1.length : Nat) : Int)),(15,i6 y_9),(19,.sl (others_2.map (SV bF)) none),(20,i6 ((others_2.length : Nat) : Int)),(21,i6 y_20),(25,.sl (row_19.map AV.bool) (some 1)),(26,.fn 60 [] [.ptr 0 0]),(27,(bC x_14)),(28,.sl (x_25.map bF) none)]) ⟨[[.sl (a_3.map aP) none],(dF x_14)],[(table_8.length,1),(row_19.length,1)]⟩ ?_)
       refine ExO.callL [0] [(bC x_14),.sl (x_25.map bF) none,.ptr 0 0] rfl rfl (by simp; try rfl) rfl (by simp) (zN N x_14 x_25 a_3 r_26 hr_26) (zV _ _ _ _) (by simp) ?_
       obtain ⟨l_27,hl_27,h⟩:=bE h
       refine runH 3 [(1,.app (l_27.map AV.bool) l_27.length)] [1,2,7,9,10,13,14,15,19,20,21] [LApp row_19.length (row_19.map AV.bool) (([r_26] : List Bool).map AV.bool) 1 (l_27.map AV.bool) l_27.length] (mkS 39 [(1,.sl (others_2.map (SV bF)) none),(2,.fn 60 [] [.ptr 0 0]),(7,.sl (table_8.map (SV AV.bool)) (some 0)),(9,.ptr 1 0),(10,.sl (l_27.map AV.bool) (some 1)),(13,.sl (list_1.map bC) none),(14,i6 ((list_1.length : Nat) : Int)),(15,i6 y_9),(19,.sl (others_2.map (SV bF)) none),(20,i6 ((others_2.length : Nat) : Int)),(21,i6 y_20)]) (⟨[[.sl (a_3.map aP) none],(dF x_14)],[(table_8.length,1),(l_27.length,1),(1,1)]⟩) (by kernel_rfl) ⟨LApp.of hl_27 (fun _ => rfl),trivial⟩ ?_
       refine ExO.nil ?_
       refine rg 2 [1,2,7,9,10,13,14,15,19,20,21] (mkS 39 [(1,.sl (others_2.map (SV bF)) none),(2,.fn 60 [] [.ptr 0 0]),(7,.sl (table_8.map (SV AV.bool)) (some 0)),(9,.ptr 1 0),(10,.sl (l_27.map AV.bool) (some 1)),(13,.sl (list_1.map bC) none),(14,i6 ((list_1.length : Nat) : Int)),(15,i6 y_9),(19,.sl (others_2.map (SV bF)) none),(20,i6 ((others_2.length : Nat) : Int)),(21,i6 (IntKind.i64.wrap (y_20 + 1)))]) ⟨[[.sl (a_3.map aP) none],(dF x_14)],[(table_8.length,1),(l_27.length,1),(1,1)]⟩ ?_
       dsimp only
       exact ⟨_,_,bM (m:=39) 2 [0,1] [(1,.sl (others_2.map (SV bF)) none),(2,.fn 60 [] [.ptr 0 0]),(7,.sl (table_8.map (SV AV.bool)) (some 0)),(9,.ptr 1 0),(10,.sl (l_27.map AV.bool) (some 1)),(13,.sl (list_1.map bC) none),(14,i6 ((list_1.length : Nat) : Int)),(15,i6 y_9),(19,.sl (others_2.map (SV bF)) none),(20,i6 ((others_2.length : Nat) : Int)),(21,i6 (IntKind.i64.wrap (y_20 + 1)))] [[.sl (a_3.map aP) none],(dF x_14)] [(table_8.length,1),(l_27.length,1)] (by simp [bD]) (by simp) ⟨(reN (cR (fun _ => (by simp only [SV,AV.clean]; exact (kM _))) _)),(by show re 2 [0,1] (.fn 60 [] [.ptr 0 0]) = some (.fn 60 [] [.ptr 0 0]); simp [re,re1,AV.clean,List.idxOf?,List.findIdx?,List.findIdx?.go,bB,fX,dS,gB,fR,dB,dC,fE,dN,cF,cJ,eV,fY,dK,cZ,jS,sC,kM,kN,cT,aK,aE,aU,aI,aW,aC,aB,aA,aN,bO,bP,eH,dP,fL,eG,aO,aJ,aQ,aF,aP,bJ,qB,oG,bF,oH,bC,dF]),(reT (cR (fun _ => (by simp only [SV,AV.clean]; exact (dS _))) _) rfl),rfl,(reT (dS _) rfl),(reN (kN _)),rfl,rfl,(reN (cR (fun _ => (by simp only [SV,AV.clean]; exact (kM _))) _)),rfl,rfl,trivial⟩ (by simp) rfl (by decide),k,Nat.lt_succ_self k,l_27,(IntKind.i64.wrap (y_20 + 1)),h,rfl,rfl⟩
      ·refine Ex.condF _ rfl hc_24 ?_
       refine Ex.exit ?_
       (try simp only [reduceCtorEq,AEx.ex.injEq,Nat.reduceEqDiff,if_true,if_false])
       exact ⟨_,_,bM (m:=39) 1 [0,1] [(1,.sl (others_2.map (SV bF)) none),(2,.fn 60 [] [.ptr 0 0]),(7,.sl (table_8.map (SV AV.bool)) (some 0)),(10,.sl (row_19.map AV.bool) (some 1)),(13,.sl (list_1.map bC) none),(14,i6 ((list_1.length : Nat) : Int)),(15,i6 y_9)] [[.sl (a_3.map aP) none]] [(table_8.length,1),(row_19.length,1)] (by simp [bD]) (by simp) ⟨(reN (cR (fun _ => (by simp only [SV,AV.clean]; exact (kM _))) _)),(by show re 1 [0,1] (.fn 60 [] [.ptr 0 0]) = some (.fn 60 [] [.ptr 0 0]); simp [re,re1,AV.clean,List.idxOf?,List.findIdx?,List.findIdx?.go,bB,fX,dS,gB,fR,dB,dC,fE,dN,cF,cJ,eV,fY,dK,cZ,jS,sC,kM,kN,cT,aK,aE,aU,aI,aW,aC,aB,aA,aN,bO,bP,eH,dP,fL,eG,aO,aJ,aQ,aF,aP,bJ,qB,oG,bF,oH,bC,dF]),(reT (cR (fun _ => (by simp only [SV,AV.clean]; exact (dS _))) _) rfl),(reT (dS _) rfl),(reN (kN _)),rfl,rfl,trivial⟩ (by simp) rfl (by decide),row_19,h,rfl,rfl⟩
    ·rintro a S ⟨row_15,h,rfl,rfl⟩
     subst hK_18
     refine Ex.postF ?_
     obtain ⟨l_28,hl_28,h⟩:=bE h
     refine regH 5 [(3,.app (l_28.map (SV AV.bool)) l_28.length)] [1,2,7,13,14,15] [LApp table_8.length (table_8.map (SV AV.bool)) (([row_15] : List (List Bool)).map (SV AV.bool)) 1 (l_28.map (SV AV.bool)) l_28.length] (mkS 39 [(1,.sl (others_2.map (SV bF)) none),(2,.fn 60 [] [.ptr 0 0]),(7,.sl (l_28.map (SV AV.bool)) (some 0)),(13,.sl (list_1.map bC) none),(14,i6 ((list_1.length : Nat) : Int)),(15,i6 y_9)]) (⟨[[.sl (a_3.map aP) none]],[(l_28.length,1),(row_15.length,1),(1,1)]⟩) (by kernel_rfl) ⟨LApp.of hl_28 (fun _ => rfl),trivial⟩ rfl ?_
     refine ⟨mkS 39 [(1,.sl (others_2.map (SV bF)) none),(2,.fn 60 [] [.ptr 0 0]),(7,.sl (l_28.map (SV AV.bool)) (some 0)),(13,.sl (list_1.map bC) none),(14,i6 ((list_1.length : Nat) : Int)),(15,i6 y_9)],⟨[[.sl (a_3.map aP) none]],[(l_28.length,1),(row_15.length,1),(1,1)]⟩,aM.refl _ _ _,?_⟩
     refine rg 2 [1,2,7,13,14,15] (mkS 39 [(1,.sl (others_2.map (SV bF)) none),(2,.fn 60 [] [.ptr 0 0]),(7,.sl (l_28.map (SV AV.bool)) (some 0)),(13,.sl (list_1.map bC) none),(14,i6 ((list_1.length : Nat) : Int)),(15,i6 (IntKind.i64.wrap (y_9 + 1)))]) ⟨[[.sl (a_3.map aP) none]],[(l_28.length,1),(row_15.length,1),(1,1)]⟩ ?_
     dsimp only
     exact ⟨_,_,bM (m:=39) 1 [0] [(1,.sl (others_2.map (SV bF)) none),(2,.fn 60 [] [.ptr 0 0]),(7,.sl (l_28.map (SV AV.bool)) (some 0)),(13,.sl (list_1.map bC) none),(14,i6 ((list_1.length : Nat) : Int)),(15,i6 (IntKind.i64.wrap (y_9 + 1)))] [[.sl (a_3.map aP) none]] [(l_28.length,1)] (by simp [bD]) (by simp) ⟨(reN (cR (fun _ => (by simp only [SV,AV.clean]; exact (kM _))) _)),(by show re 1 [0] (.fn 60 [] [.ptr 0 0]) = some (.fn 60 [] [.ptr 0 0]); simp [re,re1,AV.clean,List.idxOf?,List.findIdx?,List.findIdx?.go,bB,fX,dS,gB,fR,dB,dC,fE,dN,cF,cJ,eV,fY,dK,cZ,jS,sC,kM,kN,cT,aK,aE,aU,aI,aW,aC,aB,aA,aN,bO,bP,eH,dP,fL,eG,aO,aJ,aQ,aF,aP,bJ,qB,oG,bF,oH,bC,dF]),(reT (cR (fun _ => (by simp only [SV,AV.clean]; exact (dS _))) _) rfl),(reN (kN _)),rfl,rfl,trivial⟩ (by simp) rfl (by decide),k,Nat.lt_succ_self k,l_28,(IntKind.i64.wrap (y_9 + 1)),h,rfl,rfl⟩
   ·refine Ex.condF _ rfl hc_13 ?_
    refine Ex.exit ?_
    (try simp only [reduceCtorEq,AEx.ex.injEq,Nat.reduceEqDiff,if_true,if_false])
    exact ⟨_,_,bQ [7],table_8,h,rfl,rfl⟩
 ·rintro a S ⟨table_4,h,rfl,rfl⟩
  subst hK_7
  refine Ex.seq (rg 2 [6] (mkS 39 [(6,.sl (table_4.map (SV AV.bool)) (some 0))]) ⟨[[.sl (a_3.map aP) none]],[(table_4.length,1)]⟩ ?_)
  refine Ex.ret ?_
  obtain rfl:=sJ h
  exact rt (.sl (table_4.map (SV AV.bool)) (some 0))
def qN (N : Nat) (frames_1 : (List bZ)) (designs_2 : (List (List cC))) (route_3 : (List bL)) : Option ((List (List Bool)) × Int):=(letJ (fun (y_4 : Bool) => (bif y_4 then some ([],5) else ((pK N route_3).bind fun r_10 => (bif (r_10 != 0) then some ([],r_10) else ((cW N frames_1 designs_2 route_3).bind fun r_12 => some (r_12,0)))))) (fun k_5 => (bif (decide (((frames_1.length : Nat) : Int) > 6)) then (k_5 true) else (k_5 (decide (((designs_2.length : Nat) : Int) > 6))))))
def nJ (r : (List (List Bool)) × Int) : AV:=.tup [.sl (r.1.map (SV AV.bool)) none,i6 r.2]
attribute [local simp] nJ
theorem aCI (frames_1 : (List bZ)) (designs_2 : (List (List cC))) (route_3 : (List bL)) : [.sl (frames_1.map bC) none,.sl (designs_2.map (SV bF)) none,.sl (route_3.map aP) none].mapM (ren []) = some [.sl (frames_1.map bC) none,.sl (designs_2.map (SV bF)) none,.sl (route_3.map aP) none]:=by simp
theorem aCx (r : (List (List Bool)) × Int) (n n2 m : Nat) : back n n2 m (nJ r) = some (nJ r):=by simp
theorem aCd (N : Nat) (frames_1 : (List bZ)) (designs_2 : (List (List cC))) (route_3 : (List bL)) (r : (List (List Bool)) × Int) (h : qN N frames_1 designs_2 route_3 = some r) : Does Tryz.prog 42 [.sl (frames_1.map bC) none,.sl (designs_2.map (SV bF)) none,.sl (route_3.map aP) none] [] fun v c => v = nJ r ∧ c = []:=by
 unfold qN at h
 refine Does.ofL comp42 _ _ rfl rfl ?_
 refine Ex.seq (rg 3 [0,1,5] (mkS 26 [(0,.sl (frames_1.map bC) none),(1,.sl (designs_2.map (SV bF)) none),(5,.ptr 0 0)]) ⟨[[.sl (route_3.map aP) none]],[]⟩ ?_)
 refine Ex.seq ?_
 obtain ⟨K_6,hK_7,h⟩:=letE h
 refine Ex.seqJ (fun a S => ∃ (y_4 : Bool),K_6 y_4 = some r ∧ a = mkS 26 [(0,.sl (frames_1.map bC) none),(1,.sl (designs_2.map (SV bF)) none),(5,.ptr 0 0),(16,.bool y_4)] ∧ S = ⟨[[.sl (route_3.map aP) none]],[]⟩) ?_ ?_
 ·rcases aY h with ⟨hc_8,h⟩ | ⟨hc_8,h⟩
  ·refine regH 8 [(1, .eq (i6 ((frames_1.length : Nat) : Int))), (3, .eq (.bool true))] [0, 1, 5, 16] [AV.int .i64 (((frames_1.map bC).length : Nat) : Int) = AV.int .i64 ((frames_1.length : Nat) : Int), AV.bool (decide (((frames_1.length : Nat) : Int) > 6)) = AV.bool true] (mkS 26 [(0, .sl (frames_1.map bC) none), (1, .sl (designs_2.map (SV bF)) none), (5, .ptr 0 0), (16, .bool true)]) (⟨[[.sl (route_3.map aP) none]], []⟩) (by kernel_rfl) ⟨lenM _ _, congrArg AV.bool hc_8, trivial⟩ rfl ?_
   (try simp only [reduceCtorEq,AEx.ex.injEq,Nat.reduceEqDiff,if_true,if_false])
   exact ⟨_,_,aM.refl _ _ _,true,h,rfl,rfl⟩
  ·refine regH 8 [(1, .eq (i6 ((frames_1.length : Nat) : Int))), (3, .eq (.bool false)), (5, .eq (i6 ((designs_2.length : Nat) : Int)))] [0, 1, 5, 16] [AV.int .i64 (((frames_1.map bC).length : Nat) : Int) = AV.int .i64 ((frames_1.length : Nat) : Int), AV.bool (decide (((frames_1.length : Nat) : Int) > 6)) = AV.bool false, AV.int .i64 (((designs_2.map (SV bF)).length : Nat) : Int) = AV.int .i64 ((designs_2.length : Nat) : Int)] (mkS 26 [(0, .sl (frames_1.map bC) none), (1, .sl (designs_2.map (SV bF)) none), (5, .ptr 0 0), (16, .bool (decide (((designs_2.length : Nat) : Int) > 6)))]) (⟨[[.sl (route_3.map aP) none]], []⟩) (by kernel_rfl) ⟨lenM _ _, congrArg AV.bool hc_8, lenM _ _, trivial⟩ rfl ?_
   (try simp only [reduceCtorEq,AEx.ex.injEq,Nat.reduceEqDiff,if_true,if_false])
   exact ⟨_,_,aM.refl _ _ _,(decide (((designs_2.length : Nat) : Int) > 6)),h,rfl,rfl⟩
 ·rintro a S ⟨y_4,h,rfl,rfl⟩
  subst hK_7
  rcases aY h with ⟨hc_9,h⟩ | ⟨hc_9,h⟩
  ·refine Ex.condT _ rfl hc_9 ?_
   refine Ex.seq (rg 2 [6,7] (mkS 26 [(6,.nils),(7,i6 5)]) ⟨[[.sl (route_3.map aP) none]],[]⟩ ?_)
   refine Ex.ret ?_
   obtain rfl:=sJ h
   exact rt (.tup [.nils,i6 5])
  ·refine Ex.condF _ rfl hc_9 ?_
   refine Ex.skip ?_
   refine Ex.seq (Ex.seq ?_)
   obtain ⟨r_10,hr_10,h⟩:=bE h
   refine Ex.reg (rn 1 [0,1,5,17] (mkS 26 [(0,.sl (frames_1.map bC) none),(1,.sl (designs_2.map (SV bF)) none),(5,.ptr 0 0),(17,.sl (route_3.map aP) none)]) ⟨[[.sl (route_3.map aP) none]],[]⟩ ?_)
   refine ExO.callL [] [.sl (route_3.map aP) none] rfl rfl (aBD route_3) rfl rfl (aBh N route_3 r_10 hr_10) (aBv _ _ _ _) rfl ?_
   refine rn 1 [0,1,5,8] (mkS 26 [(0,.sl (frames_1.map bC) none),(1,.sl (designs_2.map (SV bF)) none),(5,.ptr 0 0),(8,i6 r_10)]) ⟨[[.sl (route_3.map aP) none]],[]⟩ ?_
   refine ExO.nil ?_
   refine Ex.seq (rg 2 [0,1,5,8,20] (mkS 26 [(0,.sl (frames_1.map bC) none),(1,.sl (designs_2.map (SV bF)) none),(5,.ptr 0 0),(8,i6 r_10),(20,.bool (r_10 != 0))]) ⟨[[.sl (route_3.map aP) none]],[]⟩ ?_)
   rcases aY h with ⟨hc_11,h⟩ | ⟨hc_11,h⟩
   ·refine Ex.condT _ rfl hc_11 ?_
    refine Ex.seq (rg 3 [6,7] (mkS 26 [(6,.nils),(7,i6 r_10)]) ⟨[[.sl (route_3.map aP) none]],[]⟩ ?_)
    refine Ex.ret ?_
    obtain rfl:=sJ h
    exact rt (.tup [.nils,i6 r_10])
   ·refine Ex.condF _ rfl hc_11 ?_
    refine Ex.skip ?_
    refine Ex.seq ?_
    obtain ⟨r_12,hr_12,h⟩:=bE h
    refine Ex.reg (rn 3 [22,23,24] (mkS 26 [(22,.sl (frames_1.map bC) none),(23,.sl (designs_2.map (SV bF)) none),(24,.fn 60 [] [.ptr 0 0])]) ⟨[[.sl (route_3.map aP) none]],[]⟩ ?_)
    refine ExO.callL [0] [.sl (frames_1.map bC) none,.sl (designs_2.map (SV bF)) none,.fn 60 [] [.ptr 0 0]] rfl rfl (by simp; try rfl) rfl (by simp) (iF N frames_1 designs_2 route_3 r_12 hr_12) (iG _ _ _ _) (by simp) ?_
    refine rn 2 [6,7] (mkS 26 [(6,.sl (r_12.map (SV AV.bool)) none),(7,i6 0)]) ⟨[[.sl (route_3.map aP) none]],[]⟩ ?_
    refine ExO.nil ?_
    refine Ex.ret ?_
    obtain rfl:=sJ h
    exact rt (.tup [.sl (r_12.map (SV AV.bool)) none,i6 0])
def pG (N : Nat) (frames_1 : (List bZ)) (designs_2 : (List (List cC))) (route_3 : (List bL)) : Option ((List Int) × Int):=((qN N frames_1 designs_2 route_3).bind fun r_4 => (bif (r_4.2 != 0) then some ([],r_4.2) else ((kS N r_4.1 ((designs_2.length : Nat) : Int)).bind fun r_6 => some (r_6,0))))
def mE (r : (List Int) × Int) : AV:=.tup [.sl (r.1.map (AV.int .i64)) none,i6 r.2]
attribute [local simp] mE
theorem aBA (frames_1 : (List bZ)) (designs_2 : (List (List cC))) (route_3 : (List bL)) : [.sl (frames_1.map bC) none,.sl (designs_2.map (SV bF)) none,.sl (route_3.map aP) none].mapM (ren []) = some [.sl (frames_1.map bC) none,.sl (designs_2.map (SV bF)) none,.sl (route_3.map aP) none]:=by simp
theorem aBr (r : (List Int) × Int) (n n2 m : Nat) : back n n2 m (mE r) = some (mE r):=by simp
theorem aBd (N : Nat) (frames_1 : (List bZ)) (designs_2 : (List (List cC))) (route_3 : (List bL)) (r : (List Int) × Int) (h : pG N frames_1 designs_2 route_3 = some r) : Does Tryz.prog 18 [.sl (frames_1.map bC) none,.sl (designs_2.map (SV bF)) none,.sl (route_3.map aP) none] [] fun v c => v = mE r ∧ c = []:=by
 unfold pG at h
 refine Does.ofL comp18 _ _ rfl rfl ?_
 refine Ex.seq (rg 2 [0,1,2] (mkS 24 [(0,.sl (frames_1.map bC) none),(1,.sl (designs_2.map (SV bF)) none),(2,.sl (route_3.map aP) none)]) ⟨[],[]⟩ ?_)
 refine Ex.seq ?_
 obtain ⟨r_4,hr_4,h⟩:=bE h
 refine Ex.reg (rn 3 [1,11,12,13] (mkS 24 [(1,.sl (designs_2.map (SV bF)) none),(11,.sl (frames_1.map bC) none),(12,.sl (designs_2.map (SV bF)) none),(13,.sl (route_3.map aP) none)]) ⟨[],[]⟩ ?_)
 refine ExO.callL [] [.sl (frames_1.map bC) none,.sl (designs_2.map (SV bF)) none,.sl (route_3.map aP) none] rfl rfl (aCI frames_1 designs_2 route_3) rfl rfl (aCd N frames_1 designs_2 route_3 r_4 hr_4) (aCx _ _ _ _) rfl ?_
 refine rn 5 [1,8,9] (mkS 24 [(1,.sl (designs_2.map (SV bF)) none),(8,.sl (r_4.1.map (SV AV.bool)) none),(9,i6 r_4.2)]) ⟨[],[]⟩ ?_
 refine ExO.nil ?_
 refine Ex.seq (Ex.seq ?_)
 refine rg 2 [1,8,9,18] (mkS 24 [(1,.sl (designs_2.map (SV bF)) none),(8,.sl (r_4.1.map (SV AV.bool)) none),(9,i6 r_4.2),(18,.bool (r_4.2 != 0))]) ⟨[],[]⟩ ?_
 rcases aY h with ⟨hc_5,h⟩ | ⟨hc_5,h⟩
 ·refine Ex.condT _ rfl hc_5 ?_
  refine Ex.seq (rg 3 [6,7] (mkS 24 [(6,.nils),(7,i6 r_4.2)]) ⟨[],[]⟩ ?_)
  refine Ex.ret ?_
  obtain rfl:=sJ h
  exact rt (.tup [.nils,i6 r_4.2])
 ·refine Ex.condF _ rfl hc_5 ?_
  refine Ex.skip ?_
  refine Ex.seq ?_
  obtain ⟨r_6,hr_6,h⟩:=bE h
  refine Ex.reg ?_
  refine runH 3 [(2,.eq (i6 ((designs_2.length : Nat) : Int)))] [20,22] [AV.int .i64 (((designs_2.map (SV bF)).length : Nat) : Int) = AV.int .i64 ((designs_2.length : Nat) : Int)] (mkS 24 [(20,.sl (r_4.1.map (SV AV.bool)) none),(22,i6 ((designs_2.length : Nat) : Int))]) (⟨[],[]⟩) (by kernel_rfl) ⟨lenM _ _,trivial⟩ ?_
  refine ExO.callL [] [.sl (r_4.1.map (SV AV.bool)) none,i6 ((designs_2.length : Nat) : Int)] rfl rfl (wI r_4.1 ((designs_2.length : Nat) : Int)) rfl rfl (vW N r_4.1 ((designs_2.length : Nat) : Int) r_6 hr_6) (wC _ _ _ _) rfl ?_
  refine rn 2 [6,7] (mkS 24 [(6,.sl (r_6.map (AV.int .i64)) none),(7,i6 0)]) ⟨[],[]⟩ ?_
  refine ExO.nil ?_
  refine Ex.ret ?_
  obtain rfl:=sJ h
  exact rt (.tup [.sl (r_6.map (AV.int .i64)) none,i6 0])
def pH (N : Nat)  : Option (aH):=some (⟨[(⟨true,false,false⟩ : aX),(⟨false,true,true⟩ : aX),(⟨false,false,true⟩ : aX)],[(⟨0,1,3⟩ : bH),(⟨0,3,2⟩ : bH),(⟨1,2,4⟩ : bH),(⟨1,3,2⟩ : bH)]⟩ : aH)
def pB (r : aH) : AV:=(aC r)
attribute [local simp] pB
theorem zE  : [].mapM (ren []) = some []:=by simp
theorem zB (r : aH) (n n2 m : Nat) : back n n2 m (pB r) = some (pB r):=by simp
theorem yO (N : Nat)  (r : aH) (h : pH N  = some r) : Does Tryz.prog 23 [] [] fun v c => v = pB r ∧ c = []:=by
 unfold pH at h
 refine Does.ofL comp23 _ _ rfl rfl ?_
 refine Ex.seq (rg 1 [0] (mkS 11 [(0,.ptr 0 0)]) ⟨[[.nils,.nils]],[]⟩ ?_)
 refine Ex.seq (rg 11 [0] (mkS 11 [(0,.ptr 0 0)]) ⟨[[.sl (([(⟨true,false,false⟩ : aX),(⟨false,true,true⟩ : aX),(⟨false,false,true⟩ : aX)] : List aX).map aE) (some 0),.sl (([(⟨0,1,3⟩ : bH),(⟨0,3,2⟩ : bH),(⟨1,2,4⟩ : bH),(⟨1,3,2⟩ : bH)] : List bH).map aI) (some 1)]],[(3,3),(4,3)]⟩ ?_)
 refine Ex.ret ?_
 obtain rfl:=sJ h
 exact rt (.agg [.sl (([(⟨true,false,false⟩ : aX),(⟨false,true,true⟩ : aX),(⟨false,false,true⟩ : aX)] : List aX).map aE) (some 0),.sl (([(⟨0,1,3⟩ : bH),(⟨0,3,2⟩ : bH),(⟨1,2,4⟩ : bH),(⟨1,3,2⟩ : bH)] : List bH).map aI) (some 1)])
def tE (N : Nat) (worker_1 : Int) (day_2 : Int) : Option ((List aG)):=some ([(⟨0,0⟩ : aG),(⟨worker_1,day_2⟩ : aG),(⟨1,0⟩ : aG),(⟨1,4⟩ : aG)])
def pC (r : (List aG)) : AV:=.sl (r.map aA) none
attribute [local simp] pC
theorem aDB (worker_1 : Int) (day_2 : Int) : [i6 worker_1,i6 day_2].mapM (ren []) = some [i6 worker_1,i6 day_2]:=by simp
theorem aDx (r : (List aG)) (n n2 m : Nat) : back n n2 m (pC r) = some (pC r):=by simp
theorem aDr (N : Nat) (worker_1 : Int) (day_2 : Int) (r : (List aG)) (h : tE N worker_1 day_2 = some r) : Does Tryz.prog 25 [i6 worker_1,i6 day_2] [] fun v c => v = pC r ∧ c = []:=by
 unfold tE at h
 refine Does.ofL comp25 _ _ rfl rfl ?_
 refine Ex.seq (rg 1 [0,1] (mkS 12 [(0,i6 worker_1),(1,i6 day_2)]) ⟨[],[]⟩ ?_)
 refine Ex.seq (rg 8 [4] (mkS 12 [(4,.sl (([(⟨0,0⟩ : aG),(⟨worker_1,day_2⟩ : aG),(⟨1,0⟩ : aG),(⟨1,4⟩ : aG)] : List aG).map aA) (some 0))]) ⟨[],[(4,2)]⟩ ?_)
 refine Ex.ret ?_
 obtain rfl:=sJ h
 exact rt (.sl (([(⟨0,0⟩ : aG),(⟨worker_1,day_2⟩ : aG),(⟨1,0⟩ : aG),(⟨1,4⟩ : aG)] : List aG).map aA) (some 0))
noncomputable def iC (N : Nat)  : Option (Bool):=((pI N).bind fun r_1 => ((oD N).bind fun r_2 => ((pJ N).bind fun r_3 => ((pG N r_1 r_2 r_3).bind fun r_4 => ((pH N).bind fun r_5 => ((qO N r_5).bind fun r_6 => ((pH N).bind fun r_7 => ((eO N r_7).bind fun r_8 => (bif (r_4.2 == 0) then (bif (r_6.2.2 == 0) then (bif (r_8.2 == 0) then (bif (r_6.2.1 == 6) then (bif (r_8.1 == 6) then ((qR N r_4.1 [1,0]).bind fun r_14 => (bif r_14 then ((tE N 2 3).bind fun r_16 => ((gW N r_6.1 r_16).bind fun r_17 => some r_17)) else some false)) else some false) else some false) else some false) else some false) else some false)))))))))
def nP (r : Bool) : AV:=.bool r
attribute [local simp] nP
theorem wX  : [].mapM (ren []) = some []:=by simp
theorem wV (r : Bool) (n n2 m : Nat) : back n n2 m (nP r) = some (nP r):=by simp
theorem wU (N : Nat)  (r : Bool) (h : iC N  = some r) : Does Tryz.prog 4 [] [] fun v c => v = nP r ∧ c = []:=by
 unfold iC at h
 refine Does.ofL comp4 _ _ rfl rfl ?_
 refine Ex.seq (rg 1 [] (mkS 54 []) ⟨[],[]⟩ ?_)
 refine Ex.seq ?_
 obtain ⟨r_1,hr_1,h⟩:=bE h
 refine Ex.reg ?_
 refine ExO.callL [] [] rfl rfl (aBB) rfl rfl (aBe N r_1 hr_1) (aBs _ _ _ _) rfl ?_
 obtain ⟨r_2,hr_2,h⟩:=bE h
 refine ExO.callL [] [] rfl rfl (aAd) rfl rfl (zQ N r_2 hr_2) (zY _ _ _ _) rfl ?_
 obtain ⟨r_3,hr_3,h⟩:=bE h
 refine ExO.callL [] [] rfl rfl (aBC) rfl rfl (aBf N r_3 hr_3) (aBt _ _ _ _) rfl ?_
 obtain ⟨r_4,hr_4,h⟩:=bE h
 refine ExO.callL [] [.sl (r_1.map bC) none,.sl (r_2.map (SV bF)) none,.sl (r_3.map aP) none] rfl rfl (aBA r_1 r_2 r_3) rfl rfl (aBd N r_1 r_2 r_3 r_4 hr_4) (aBr _ _ _ _) rfl ?_
 refine rn 5 [1,2] (mkS 54 [(1,.sl (r_4.1.map (AV.int .i64)) none),(2,i6 r_4.2)]) ⟨[],[]⟩ ?_
 refine ExO.nil ?_
 refine Ex.seq ?_
 obtain ⟨r_5,hr_5,h⟩:=bE h
 refine Ex.reg ?_
 refine ExO.callL [] [] rfl rfl (zE) rfl rfl (yO N r_5 hr_5) (zB _ _ _ _) rfl ?_
 obtain ⟨r_6,hr_6,h⟩:=bE h
 refine ExO.callL [] [(aC r_5)] rfl rfl (aCJ r_5) rfl rfl (aCe N r_5 r_6 hr_6) (aCy _ _ _ _) rfl ?_
 refine rn 7 [1,2,3,4,5] (mkS 54 [(1,.sl (r_4.1.map (AV.int .i64)) none),(2,i6 r_4.2),(3,.sl (r_6.1.map aA) none),(4,i6 r_6.2.1),(5,i6 r_6.2.2)]) ⟨[],[]⟩ ?_
 refine ExO.nil ?_
 refine Ex.seq ?_
 obtain ⟨r_7,hr_7,h⟩:=bE h
 refine Ex.reg ?_
 refine ExO.callL [] [] rfl rfl (zE) rfl rfl (yO N r_7 hr_7) (zB _ _ _ _) rfl ?_
 obtain ⟨r_8,hr_8,h⟩:=bE h
 refine ExO.callL [] [(aC r_7)] rfl rfl (vC r_7) rfl rfl (uN N r_7 r_8 hr_8) (uU _ _ _ _) rfl ?_
 refine rn 5 [1,2,3,4,5,6,7] (mkS 54 [(1,.sl (r_4.1.map (AV.int .i64)) none),(2,i6 r_4.2),(3,.sl (r_6.1.map aA) none),(4,i6 r_6.2.1),(5,i6 r_6.2.2),(6,i6 r_8.1),(7,i6 r_8.2)]) ⟨[],[]⟩ ?_
 refine ExO.nil ?_
 refine Ex.seq ?_
 rcases aY h with ⟨hc_9,h⟩ | ⟨hc_9,h⟩
 ·rcases aY h with ⟨hc_10,h⟩ | ⟨hc_10,h⟩
  ·rcases aY h with ⟨hc_11,h⟩ | ⟨hc_11,h⟩
   ·rcases aY h with ⟨hc_12,h⟩ | ⟨hc_12,h⟩
    ·rcases aY h with ⟨hc_13,h⟩ | ⟨hc_13,h⟩
     ·obtain ⟨r_14,hr_14,h⟩:=bE h
      refine Ex.reg ?_
      refine runH 21 [(2,.eq (.bool true)),(6,.eq (.bool true)),(10,.eq (.bool true)),(14,.eq (.bool true)),(18,.eq (.bool true))] [3,44,45,46] [AV.bool (r_4.2 == 0) = AV.bool true,AV.bool (r_6.2.2 == 0) = AV.bool true,AV.bool (r_8.2 == 0) = AV.bool true,AV.bool (r_6.2.1 == 6) = AV.bool true,AV.bool (r_8.1 == 6) = AV.bool true] (mkS 54 [(3,.sl (r_6.1.map aA) none),(44,.bool true),(45,.sl (r_4.1.map (AV.int .i64)) none),(46,.sl (([1,0] : List Int).map (AV.int .i64)) (some 0))]) (⟨[],[(2,1)]⟩) (by kernel_rfl) ⟨congrArg AV.bool hc_9,congrArg AV.bool hc_10,congrArg AV.bool hc_11,congrArg AV.bool hc_12,congrArg AV.bool hc_13,trivial⟩ ?_
      refine ExO.callL [] [.sl (r_4.1.map (AV.int .i64)) none,.sl (([1,0] : List Int).map (AV.int .i64)) (some 0)] rfl rfl (aCP r_4.1 [1,0]) rfl rfl (aCm N r_4.1 [1,0] r_14 hr_14) (aCG _ _ _ _) rfl ?_
      rcases aY h with ⟨hc_15,h⟩ | ⟨hc_15,h⟩
      ·obtain ⟨r_16,hr_16,h⟩:=bE h
       refine runH 3 [(1,.eq (.bool true))] [49,50] [AV.bool r_14 = AV.bool true] (mkS 54 [(49,.bool true),(50,.sl (r_6.1.map aA) none)]) (⟨[],[(2,1)]⟩) (by kernel_rfl) ⟨congrArg AV.bool hc_15,trivial⟩ ?_
       refine ExO.callL [] [i6 2,i6 3] rfl rfl (aDB 2 3) rfl rfl (aDr N 2 3 r_16 hr_16) (aDx _ _ _ _) rfl ?_
       obtain ⟨r_17,hr_17,h⟩:=bE h
       refine ExO.callL [] [.sl (r_6.1.map aA) none,.sl (r_16.map aA) none] rfl rfl (tC r_6.1 r_16) rfl rfl (sV N r_6.1 r_16 r_17 hr_17) (sZ _ _ _ _) rfl ?_
       refine rn 2 [0] (mkS 54 [(0,.bool r_17)]) ⟨[],[(2,1)]⟩ ?_
       refine ExO.nil ?_
       refine Ex.ret ?_
       obtain rfl:=sJ h
       exact rt (.bool r_17)
      ·refine runH 7 [(1, .eq (.bool false))] [0] [AV.bool r_14 = AV.bool false] (mkS 54 [(0, .bool false)]) (⟨[], [(2, 1)]⟩) (by kernel_rfl) ⟨congrArg AV.bool hc_15, trivial⟩ ?_
       refine ExO.nil ?_
       refine Ex.ret ?_
       obtain rfl:=sJ h
       exact rt (.bool false)
     ·refine regH 29 [(2, .eq (.bool true)), (6, .eq (.bool true)), (10, .eq (.bool true)), (14, .eq (.bool true)), (18, .eq (.bool false))] [0] [AV.bool (r_4.2 == 0) = AV.bool true, AV.bool (r_6.2.2 == 0) = AV.bool true, AV.bool (r_8.2 == 0) = AV.bool true, AV.bool (r_6.2.1 == 6) = AV.bool true, AV.bool (r_8.1 == 6) = AV.bool false] (mkS 54 [(0, .bool false)]) (⟨[], []⟩) (by kernel_rfl) ⟨congrArg AV.bool hc_9, congrArg AV.bool hc_10, congrArg AV.bool hc_11, congrArg AV.bool hc_12, congrArg AV.bool hc_13, trivial⟩ rfl ?_
      refine Ex.ret ?_
      obtain rfl:=sJ h
      exact rt (.bool false)
    ·refine regH 29 [(2, .eq (.bool true)), (6, .eq (.bool true)), (10, .eq (.bool true)), (14, .eq (.bool false))] [0] [AV.bool (r_4.2 == 0) = AV.bool true, AV.bool (r_6.2.2 == 0) = AV.bool true, AV.bool (r_8.2 == 0) = AV.bool true, AV.bool (r_6.2.1 == 6) = AV.bool false] (mkS 54 [(0, .bool false)]) (⟨[], []⟩) (by kernel_rfl) ⟨congrArg AV.bool hc_9, congrArg AV.bool hc_10, congrArg AV.bool hc_11, congrArg AV.bool hc_12, trivial⟩ rfl ?_
     refine Ex.ret ?_
     obtain rfl:=sJ h
     exact rt (.bool false)
   ·refine regH 29 [(2, .eq (.bool true)), (6, .eq (.bool true)), (10, .eq (.bool false))] [0] [AV.bool (r_4.2 == 0) = AV.bool true, AV.bool (r_6.2.2 == 0) = AV.bool true, AV.bool (r_8.2 == 0) = AV.bool false] (mkS 54 [(0, .bool false)]) (⟨[], []⟩) (by kernel_rfl) ⟨congrArg AV.bool hc_9, congrArg AV.bool hc_10, congrArg AV.bool hc_11, trivial⟩ rfl ?_
    refine Ex.ret ?_
    obtain rfl:=sJ h
    exact rt (.bool false)
  ·refine regH 29 [(2, .eq (.bool true)), (6, .eq (.bool false))] [0] [AV.bool (r_4.2 == 0) = AV.bool true, AV.bool (r_6.2.2 == 0) = AV.bool false] (mkS 54 [(0, .bool false)]) (⟨[], []⟩) (by kernel_rfl) ⟨congrArg AV.bool hc_9, congrArg AV.bool hc_10, trivial⟩ rfl ?_
   refine Ex.ret ?_
   obtain rfl:=sJ h
   exact rt (.bool false)
 ·refine regH 29 [(2, .eq (.bool false))] [0] [AV.bool (r_4.2 == 0) = AV.bool false] (mkS 54 [(0, .bool false)]) (⟨[], []⟩) (by kernel_rfl) ⟨congrArg AV.bool hc_9, trivial⟩ rfl ?_
  refine Ex.ret ?_
  obtain rfl:=sJ h
  exact rt (.bool false)
end
end Go.Proofs.YtildamklmoekaaaGreatDoor
