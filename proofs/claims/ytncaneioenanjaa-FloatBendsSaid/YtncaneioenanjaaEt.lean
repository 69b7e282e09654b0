/- The engine, part 20: code reckoned step by step, each new number under a name of its own (the steps themselves are words of wip/ex.py, written out when a text is laid: a claim bears no macro). Own work; imports no translation. -/
import Derived.Test.YtncaneioenanjaaEs
namespace Go.Proofs.Ytncaneioenanjaa
open Go.RowKit
set_option linter.unusedVariables false
set_option linter.unusedSimpArgs false

section
variable {orc : Clr} {a : List AV} {S : St} {R : List AV → St → Prop}
theorem EvO.opI {x : AOper} {l : List AOper} {k : IntKind} {n : Int} {S1 : St} (hw : wantedA x.guard a = some true) (hv : evOp orc x.op a S = some (.int k n, S1)) (h : ∀ m, m = n → EvO orc l (putA a x.dst (.int k m)) S1 R) : EvO orc (x :: l) a S R := EvO.op hw hv (h n rfl)
theorem EvO.opB {x : AOper} {l : List AOper} {n : Bool} {S1 : St} (hw : wantedA x.guard a = some true) (hv : evOp orc x.op a S = some (.bool n, S1)) (h : ∀ m, m = n → EvO orc l (putA a x.dst (.bool m)) S1 R) : EvO orc (x :: l) a S R := EvO.op hw hv (h n rfl)
/-- A call: what is known of it. -/
theorem EvO.call {orc : Orc} {x : AOper} {l : List AOper} {f : FuncId} {xs ys : List AV} {bs : List Nat} {cells : List (List AV)} {K : AV → List (List AV) → Prop} (hw : wantedA x.guard a = some true) (hv : aop x.op (evd a) S = some (.call f xs)) (hbs : fpOf xs = bs) (hr : xs.mapM (ren bs) = some ys) (hc : bs.mapM (fun b => S.bx[b]?) = some cells) (hcl : (cells.all cleanL && decide bs.Nodup) = true)
    (ho : ∃ v c', orc f ys cells = some (v, c') ∧ K v c')
    (h : ∀ v c', K v c' → ∃ v', back bs.length c'.length S.bx.length v = some v' ∧ c'.all cleanL = true ∧ EvO (clrOf orc) l (putA a x.dst v') ⟨setAll S.bx bs c' ++ c'.drop bs.length, S.lv⟩ R) : EvO (clrOf orc) (x :: l) a S R := by
  subst hbs
  obtain ⟨v, c', h1, h2⟩ := ho
  obtain ⟨v', h3, h4, h5⟩ := h v c' h2
  refine EvO.op hw ?_ h5
  rw [evOp_call hv, callS_clrOf]
  simp only [evCall, hr, hc, hcl, if_true, h1, h3, h4]
end


/-- What a step gives: 1 a number, 2 a truth value, 0 whatever it is, 8 a call, 9 behind a guard. -/
def isCmp : BinOp → Bool
  | .eql | .neq | .lss | .leq | .gtr | .geq => true
  | _ => false
def opK (x : AOper) : Nat := match x.guard with
  | some _ => 9
  | none => match x.op with
    | .call _ _ => 8
    | .bin o _ _ => bif isCmp o then 2 else 1
    | .un .not _ => 2
    | .un _ _ | .conv _ _ | .mn _ _ | .mx _ _ => 1
    | .eqn _ _ _ _ | .eqs _ _ _ _ => 2
    | _ => 0
theorem opK_free {x : AOper} (h : opK x < 9) {a : List AV} : wantedA x.guard a = some true := by
  cases hg : x.guard with
  | none => rfl
  | some g => simp [opK, hg] at h
section
variable {orc : Clr} {a : List AV} {S : St} {R : List AV → St → Prop}
theorem EvO.stI {x : AOper} {l : List AOper} (k : IntKind) (n : Int) (S1 : St) (hk : opK x = 1) (hv : evOp orc x.op a S = some (.int k n, S1)) (h : ∀ m, m = n → EvO orc l (putA a x.dst (.int k m)) S1 R) : EvO orc (x :: l) a S R := EvO.op (opK_free (by omega)) hv (h n rfl)
theorem EvO.stB {x : AOper} {l : List AOper} (n : Bool) (S1 : St) (hk : opK x = 2) (hv : evOp orc x.op a S = some (.bool n, S1)) (h : ∀ m, m = n → EvO orc l (putA a x.dst (.bool m)) S1 R) : EvO orc (x :: l) a S R := EvO.op (opK_free (by omega)) hv (h n rfl)
theorem EvO.stG {x : AOper} {l : List AOper} (v : AV) (S1 : St) (hk : Nat.blt (opK x) 8 = true) (hv : evOp orc x.op a S = some (v, S1)) (h : EvO orc l (putA a x.dst v) S1 R) : EvO orc (x :: l) a S R := EvO.op (opK_free (by simp [Nat.blt] at hk; omega)) hv h
/-- A guarded one that is wanted, or not. -/
theorem EvO.stW {x : AOper} {l : List AOper} (v : AV) (S1 : St) (hw : wantedA x.guard a = some true) (hv : evOp orc x.op a S = some (v, S1)) (h : EvO orc l (putA a x.dst v) S1 R) : EvO orc (x :: l) a S R := EvO.op hw hv h
theorem EvO.stN {x : AOper} {l : List AOper} (hw : wantedA x.guard a = some false) (h : EvO orc l (putA a x.dst (.tup [])) S R) : EvO orc (x :: l) a S R := EvO.skip hw h
end
/-- Functions by their numbers. -/
def look : List (FuncId × (List AV → List (List AV) → AV → List (List AV) → Prop)) → FnPost
  | [], _ => fun _ _ _ _ => False
  | (g, p) :: l, f => bif Nat.beq g f then p else look l f
/-- A call of a function of which something is known. -/
theorem EvO.callM {P : Program} {T : FnPost} {x : AOper} {l : List AOper} {a : List AV} {S : St} {R : List AV → St → Prop} {f : FuncId} {xs ys : List AV} {bs : List Nat} {cells : List (List AV)} {K : AV → List (List AV) → Prop} (hw : wantedA x.guard a = some true) (hv : aop x.op (evd a) S = some (.call f xs)) (hbs : fpOf xs = bs) (hr : xs.mapM (ren bs) = some ys) (hc : bs.mapM (fun b => S.bx[b]?) = some cells) (hcl : (cells.all cleanL && decide bs.Nodup) = true)
    (ho : Meets P f ys cells K) (hT : T f ys cells = K)
    (h : ∀ v c', K v c' → ∃ v', back bs.length c'.length S.bx.length v = some v' ∧ c'.all cleanL = true ∧ EvO (clrOf (orcOf P T)) l (putA a x.dst v') ⟨setAll S.bx bs c' ++ c'.drop bs.length, S.lv⟩ R) : EvO (clrOf (orcOf P T)) (x :: l) a S R := by
  subst hT
  obtain ⟨v, c', h1, h2⟩ := orcOf_meets ho
  exact EvO.call hw hv hbs hr hc hcl ⟨v, c', h1, h2⟩ h
end Go.Proofs.Ytncaneioenanjaa
