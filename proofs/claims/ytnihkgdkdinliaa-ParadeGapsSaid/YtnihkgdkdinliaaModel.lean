/- What parade's functions come to, on plain lists. Own work; imports no translation. -/
import Derived.Test.YtnihkgdkdinliaaMem
namespace Go.Proofs.Ytnihkgdkdinliaa
open Go.RowKit
set_option linter.unusedVariables false

def gI (l : List Int) (k : Nat) : Int := (l[k]?).getD 0
def gW (ws : List Wg) (k : Nat) : Wg := (ws[k]?).getD ⟨ByteArray.empty, 0, 0, 0⟩

theorem gI_lt {l : List Int} {k : Nat} (h : k < l.length) : gI l k = l[k] := by simp [gI, h]
theorem gW_lt {l : List Wg} {k : Nat} (h : k < l.length) : gW l k = l[k] := by simp [gW, h]

theorem SlI.cellG {w : World} {T : TypeId} {b o : Nat} {zs : List Int} (h : SlI w T (some ⟨b, o, none⟩) zs) {k : Nat} (hk : k < zs.length) : w.cell? ⟨b, o + k, none⟩ = some (I (gI zs k)) := by
  rw [gI_lt hk]; exact SlI.cells h hk
theorem SlW.cellG {w : World} {T : TypeId} {b o : Nat} {ws : List Wg} (h : SlW w T (some ⟨b, o, none⟩) ws) {k : Nat} (hk : k < ws.length) :
    w.cell? ⟨b, o + k * 4, none⟩ = some (.string (gW ws k).name) ∧ w.cell? ⟨b, o + k * 4 + 1, none⟩ = some (I (gW ws k).len) ∧
    w.cell? ⟨b, o + k * 4 + 2, none⟩ = some (I (gW ws k).lo) ∧ w.cell? ⟨b, o + k * 4 + 3, none⟩ = some (I (gW ws k).hi) := by
  rw [gW_lt hk]; exact SlW.cells h hk

/-- How many seconds a way takes, rounded up; 0 at least. -/
def cd (n p : Int) : Int := (max 0 n + p - 1) / p

/-- The second in which a wing passes a place: from wing i on to the first, with the place that is left and the second so far. -/
def pasF (ws : List Wg) (sts ps : List Int) : Nat → Int → Int → Int
  | 0, place, acc => max acc (gI sts 0 + cd place (gI ps 0))
  | i + 1, place, acc => pasF ws sts ps i (place + (gW ws i).len) (max acc (gI sts (i + 1) + cd place (gI ps (i + 1))))
def passed (ws : List Wg) (sts ps : List Int) (wing : Nat) (place : Int) : Int := pasF ws sts ps wing place (gI sts wing)

/-- Where a front is. -/
def front (ws : List Wg) (sts ps : List Int) (t : Int) : Nat → Int
  | 0 => gI ps 0 * (t - gI sts 0)
  | i + 1 => min (gI ps (i + 1) * (t - gI sts (i + 1))) (front ws sts ps t i - (gW ws i).len)

def los (ws : List Wg) : List Int := ws.map (·.lo)
def his (ws : List Wg) : List Int := ws.map (·.hi)

theorem los_length (ws : List Wg) : (los ws).length = ws.length := by simp [los]
theorem his_length (ws : List Wg) : (his ws).length = ws.length := by simp [his]
def leastOf (ws : List Wg) (sts : List Int) : Nat → Int
  | 0 => 0
  | i + 1 => passed ws sts (los ws) i (gW ws i).len

/-- Numbers that are small enough for all sums. -/
def Sm (ws : List Wg) (sts ps : List Int) (wing : Nat) : Prop :=
  wing < ws.length ∧ wing < sts.length ∧ wing < ps.length ∧ wing ≤ 20 ∧ ∀ k, k ≤ wing → 1 ≤ gI ps k ∧ gI ps k ≤ 1000000 ∧ 0 ≤ gI sts k ∧ gI sts k ≤ 1000000 ∧ 0 ≤ (gW ws k).len ∧ (gW ws k).len ≤ 1000000

theorem cd_bd {n p : Int} (h1 : 1 ≤ p) (h2 : n ≤ 1000000000) : 0 ≤ cd n p ∧ cd n p ≤ 1000000000 := by
  unfold cd
  have h3 : 0 ≤ max 0 n + p - 1 := by omega
  refine ⟨Int.ediv_nonneg h3 (by omega), ?_⟩
  apply Int.ediv_le_of_le_mul (by omega)
  have : 1000000000 * 1 ≤ 1000000000 * p := Int.mul_le_mul_of_nonneg_left h1 (by decide)
  have h5 : max 0 n ≤ 1000000000 := by omega
  have h6 : 1000000000 * p = 1000000000 * (p - 1) + 1000000000 := by omega
  have h7 : 1 * (p - 1) ≤ 1000000000 * (p - 1) := Int.mul_le_mul_of_nonneg_right (by decide) (by omega)
  omega

theorem cd_eq (q P : Int) : ((if 0 < q then q else 0) + P - 1) / P = cd q P := by
  unfold cd
  congr 2
  congr 1
  split <;> omega

theorem pas_step {s a q P : Int} (h1 : 1 ≤ P) (h2 : q ≤ 1000000000) (h3 : 0 ≤ a) (h4 : a ≤ 1000000) :
    (if s < wrap64 (a + ((if 0 < q then q else 0) + P - 1) / P) then wrap64 (a + ((if 0 < q then q else 0) + P - 1) / P) else s) = max s (a + cd q P) := by
  have h := cd_bd h1 h2
  rw [cd_eq, IntWalk.wrap64_in _ ⟨by omega, by omega⟩]
  split <;> omega

theorem I_inj {a b : Int} : (I a = I b) = (a = b) := by simp

theorem mul_bd {a b A B : Int} (h1 : 0 ≤ a) (h2 : a ≤ A) (h3 : -B ≤ b) (h4 : b ≤ B) : -(A * B) ≤ a * b ∧ a * b ≤ A * B := by
  have hB : 0 ≤ B := by omega
  have hA : 0 ≤ A := by omega
  have e1 : a * b ≤ a * B := Int.mul_le_mul_of_nonneg_left h4 h1
  have e2 : a * B ≤ A * B := Int.mul_le_mul_of_nonneg_right h2 hB
  have e3 : a * -B ≤ a * b := Int.mul_le_mul_of_nonneg_left h3 h1
  have e4 : a * -B = -(a * B) := Int.mul_neg _ _
  omega

theorem prod_bd {ws : List Wg} {sts ps : List Int} {wing k : Nat} {t : Int} (hs : Sm ws sts ps wing) (hk : k ≤ wing) (h1 : -1000000 ≤ t) (h2 : t ≤ 1000000) :
    -2000000000000 ≤ gI ps k * (t - gI sts k) ∧ gI ps k * (t - gI sts k) ≤ 2000000000000 := by
  obtain ⟨_, _, _, _, h⟩ := hs
  obtain ⟨a1, a2, a3, a4, _, _⟩ := h k hk
  have := mul_bd (a := gI ps k) (b := t - gI sts k) (A := 1000000) (B := 2000000) (by omega) a2 (by omega) (by omega)
  omega

theorem front_bd {ws : List Wg} {sts ps : List Int} {wing : Nat} {t : Int} (hs : Sm ws sts ps wing) (h1 : -1000000 ≤ t) (h2 : t ≤ 1000000) :
    ∀ k, k ≤ wing → -2000000000000 - 1000000 * (k : Int) ≤ front ws sts ps t k ∧ front ws sts ps t k ≤ 2000000000000 := by
  intro k
  induction k with
  | zero => intro hk; have := prod_bd hs hk h1 h2; unfold front; omega
  | succ k ih =>
    intro hk
    have e1 := ih (by omega)
    have e2 := prod_bd hs hk h1 h2
    obtain ⟨_, _, _, _, h⟩ := hs
    obtain ⟨_, _, _, _, a5, a6⟩ := h k (by omega)
    unfold front
    omega

theorem min_if (a b : Int) : (if b < a then b else a) = min a b := by split <;> omega

theorem flat_snoc (ws : List Int) (x : Int) : (ws ++ [x]).map I = ws.map I ++ [I x] := by simp

/-- How far wing i goes ahead of a wing, if none leaves a gap. -/
def dist (ws : List Wg) (wing i : Nat) : Int := (((List.range' i (wing - i)).map fun j => (gW ws j).len)).foldr (· + ·) 0

theorem dist_self (ws : List Wg) (wing : Nat) : dist ws wing wing = 0 := by simp [dist]
theorem dist_over (ws : List Wg) (wing : Nat) : dist ws wing (wing + 1) = 0 := by simp [dist]
theorem dist_step (ws : List Wg) (wing i : Nat) (h : i < wing) : dist ws wing i = dist ws wing (i + 1) + (gW ws i).len := by
  unfold dist
  rw [show wing - i = (wing - (i + 1)) + 1 by omega, List.range'_succ]
  simp only [List.map_cons, List.foldr_cons]
  omega

theorem dist_bd {ws : List Wg} {wing : Nat} (h : ∀ k, k ≤ wing → 0 ≤ (gW ws k).len ∧ (gW ws k).len ≤ 1000000) (hw : wing ≤ 20) :
    ∀ r i, i + r = wing → 0 ≤ dist ws wing i ∧ dist ws wing i ≤ 1000000 * (r : Int) := by
  intro r
  induction r with
  | zero => intro i hi; have : i = wing := by omega
            subst this; rw [dist_self]; omega
  | succ r ih =>
    intro i hi
    rw [dist_step ws wing i (by omega)]
    have h1 := ih (i + 1) (by omega)
    have h2 := h i (by omega)
    omega

/-- The numbers from n down to 0. -/
def downTo : Nat → List Nat
  | 0 => [0]
  | n + 1 => (n + 1) :: downTo n

def psec (ws : List Wg) (sts ps : List Int) (wing : Nat) (place : Int) (s : Int) (i : Nat) : Int := max s (gI sts i + cd (place + dist ws wing i) (gI ps i))
def pmin (ws : List Wg) (sts ps : List Int) (wing : Nat) (t : Int) (s : Int) (i : Nat) : Int := min s (gI ps i * (t - gI sts i) - dist ws wing i)

theorem psec_all (ws : List Wg) (sts ps : List Int) (wing : Nat) (place : Int) : ∀ i acc, i ≤ wing →
    (downTo i).foldl (psec ws sts ps wing place) acc = pasF ws sts ps i (place + dist ws wing i) acc := by
  intro i
  induction i with
  | zero => intro acc _; simp [downTo, psec, pasF]
  | succ i ih =>
    intro acc hi
    simp only [downTo, List.foldl_cons, pasF]
    rw [ih _ (by omega)]
    rw [dist_step ws wing i (by omega)]
    congr 1
    omega

theorem pmin_all (ws : List Wg) (sts ps : List Int) (wing : Nat) (t : Int) : ∀ i acc, i ≤ wing →
    (downTo i).foldl (pmin ws sts ps wing t) acc = min acc (front ws sts ps t i - dist ws wing i) := by
  intro i
  induction i with
  | zero => intro acc _; simp [downTo, pmin, front]
  | succ i ih =>
    intro acc hi
    simp only [downTo, List.foldl_cons, front]
    rw [ih _ (by omega), dist_step ws wing i (by omega)]
    unfold pmin
    omega

theorem downTo_length (n : Nat) : (downTo n).length = n + 1 := by
  induction n with
  | zero => rfl
  | succ n ih => simp [downTo, ih]

theorem max_if (a b : Int) : (if a < b then b else a) = max a b := by split <;> omega

theorem pace_cell (x y : Value) (p0 p1 p2 p3 p4 p5 p6 p7 : Int) (i : Nat) (h : i < 8) : (#[x, y, I p0, I p1, I p2, I p3, I p4, I p5, I p6, I p7] : Array Value)[2 + i]? = some (I (gI [p0, p1, p2, p3, p4, p5, p6, p7] i)) := by
  match i, h with
  | 0, _ => rfl | 1, _ => rfl | 2, _ => rfl | 3, _ => rfl | 4, _ => rfl | 5, _ => rfl | 6, _ => rfl | 7, _ => rfl

/-- The end of a wing's pace; 0 where there is no wing. -/
def endp (ws : List Wg) (e : Nat) (i : Nat) : Int := if i < ws.length then (if e = 0 then (gW ws i).lo else (gW ws i).hi) else 0
def eps (ws : List Wg) (e : Nat) : List Int := [endp ws e 0, endp ws e 1, endp ws e 2, endp ws e 3, endp ws e 4, endp ws e 5, endp ws e 6, endp ws e 7]
theorem gI_eps (ws : List Wg) (e i : Nat) (h : i < 8) : gI (eps ws e) i = endp ws e i := by
  match i, h with
  | 0, _ => rfl | 1, _ => rfl | 2, _ => rfl | 3, _ => rfl | 4, _ => rfl | 5, _ => rfl | 6, _ => rfl | 7, _ => rfl
theorem gI_los (ws : List Wg) (i : Nat) (h : i < ws.length) : gI (los ws) i = (gW ws i).lo := by simp [gI, los, gW, h]
theorem gI_his (ws : List Wg) (i : Nat) (h : i < ws.length) : gI (his ws) i = (gW ws i).hi := by simp [gI, his, gW, h]

theorem pasF_congr (ws : List Wg) (sts ps ps' : List Int) : ∀ i place acc, (∀ k, k ≤ i → gI ps k = gI ps' k) → pasF ws sts ps i place acc = pasF ws sts ps' i place acc := by
  intro i
  induction i with
  | zero => intro place acc h; simp only [pasF, h 0 (Nat.le_refl _)]
  | succ i ih =>
    intro place acc h
    simp only [pasF, h (i + 1) (Nat.le_refl _)]
    exact ih _ _ fun k hk => h k (by omega)
theorem passed_congr {ws : List Wg} {sts ps ps' : List Int} {wing : Nat} (place : Int) (h : ∀ k, k ≤ wing → gI ps k = gI ps' k) : passed ws sts ps wing place = passed ws sts ps' wing place := pasF_congr _ _ _ _ _ _ _ h
theorem front_congr {ws : List Wg} {sts ps ps' : List Int} (t : Int) : ∀ wing, (∀ k, k ≤ wing → gI ps k = gI ps' k) → front ws sts ps t wing = front ws sts ps' t wing := by
  intro wing
  induction wing with
  | zero => intro h; simp only [front, h 0 (Nat.le_refl _)]
  | succ i ih =>
    intro h
    simp only [front, h (i + 1) (Nat.le_refl _)]
    rw [ih fun k hk => h k (by omega)]

theorem Sm.congr {ws : List Wg} {sts ps ps' : List Int} {wing : Nat} (h : Sm ws sts ps wing) (hl : wing < ps'.length) (he : ∀ k, k ≤ wing → gI ps k = gI ps' k) : Sm ws sts ps' wing := by
  obtain ⟨h1, h2, h3, h4, h5⟩ := h
  refine ⟨h1, h2, hl, h4, fun k hk => ?_⟩
  rw [← he k hk]
  exact h5 k hk
theorem Sm.less {ws : List Wg} {sts ps : List Int} {wing k : Nat} (h : Sm ws sts ps wing) (hk : k ≤ wing) : Sm ws sts ps k := by
  obtain ⟨h1, h2, h3, h4, h5⟩ := h
  exact ⟨by omega, by omega, by omega, by omega, fun j hj => h5 j (by omega)⟩

/-- A truth's cells when the first k paces have been laid. -/
def parr (x y : Value) (ws : List Wg) (e k : Nat) : Array Value := #[x, y, I (if 0 < k then endp ws e 0 else 0), I (if 1 < k then endp ws e 1 else 0), I (if 2 < k then endp ws e 2 else 0), I (if 3 < k then endp ws e 3 else 0), I (if 4 < k then endp ws e 4 else 0), I (if 5 < k then endp ws e 5 else 0), I (if 6 < k then endp ws e 6 else 0), I (if 7 < k then endp ws e 7 else 0)]
theorem parr_set (x y : Value) (ws : List Wg) (e k : Nat) (h : k < 8) : (parr x y ws e k).setIfInBounds (2 + k) (I (endp ws e k)) = parr x y ws e (k + 1) := by
  match k, h with
  | 0, _ => simp [parr] | 1, _ => simp [parr] | 2, _ => simp [parr] | 3, _ => simp [parr] | 4, _ => simp [parr] | 5, _ => simp [parr] | 6, _ => simp [parr] | 7, _ => simp [parr]
theorem endp_if (ws : List Wg) (e i : Nat) : (if i < ws.length then endp ws e i else 0) = endp ws e i := by unfold endp; split <;> rfl
theorem parr_all (x y : Value) (ws : List Wg) (e : Nat) : parr x y ws e ws.length = #[x, y, I (endp ws e 0), I (endp ws e 1), I (endp ws e 2), I (endp ws e 3), I (endp ws e 4), I (endp ws e 5), I (endp ws e 6), I (endp ws e 7)] := by
  simp only [parr, endp_if]
theorem parr_none (x y : Value) (ws : List Wg) (e : Nat) : parr x y ws e 0 = #[x, y, I 0, I 0, I 0, I 0, I 0, I 0, I 0, I 0] := by simp [parr]

theorem parr_at (x y : Value) (ws : List Wg) (e k : Nat) (h : k < 8) : (parr x y ws e k)[2 + k]? = some (I 0) := by
  match k, h with
  | 0, _ => simp [parr] | 1, _ => simp [parr] | 2, _ => simp [parr] | 3, _ => simp [parr] | 4, _ => simp [parr] | 5, _ => simp [parr] | 6, _ => simp [parr] | 7, _ => simp [parr]

theorem pset (x y : Value) (q : Nat → Int) (v : Int) (k : Nat) (h : k < 8) : (#[x, y, I (q 0), I (q 1), I (q 2), I (q 3), I (q 4), I (q 5), I (q 6), I (q 7)] : Array Value).setIfInBounds (2 + k) (I v) = #[x, y, I (if 0 = k then v else q 0), I (if 1 = k then v else q 1), I (if 2 = k then v else q 2), I (if 3 = k then v else q 3), I (if 4 = k then v else q 4), I (if 5 = k then v else q 5), I (if 6 = k then v else q 6), I (if 7 = k then v else q 7)] := by
  match k, h with
  | 0, _ => simp | 1, _ => simp | 2, _ => simp | 3, _ => simp | 4, _ => simp | 5, _ => simp | 6, _ => simp | 7, _ => simp
theorem pget (x y : Value) (q : Nat → Int) (k : Nat) (h : k < 8) : (#[x, y, I (q 0), I (q 1), I (q 2), I (q 3), I (q 4), I (q 5), I (q 6), I (q 7)] : Array Value)[2 + k]? = some (I (q k)) := by
  match k, h with
  | 0, _ => simp | 1, _ => simp | 2, _ => simp | 3, _ => simp | 4, _ => simp | 5, _ => simp | 6, _ => simp | 7, _ => simp

/-- The pace of wing i where wing k goes at the end e, and all others at the other end. -/
def apl (ws : List Wg) (k e : Nat) (i : Nat) : Int := if i = k then endp ws e k else endp ws (1 - e) i
def apls (ws : List Wg) (k e : Nat) : List Int := [apl ws k e 0, apl ws k e 1, apl ws k e 2, apl ws k e 3, apl ws k e 4, apl ws k e 5, apl ws k e 6, apl ws k e 7]
theorem gI_apls (ws : List Wg) (k e i : Nat) (h : i < 8) : gI (apls ws k e) i = apl ws k e i := by
  match i, h with
  | 0, _ => rfl | 1, _ => rfl | 2, _ => rfl | 3, _ => rfl | 4, _ => rfl | 5, _ => rfl | 6, _ => rfl | 7, _ => rfl

/-- A name: 1 to 8 small letters. -/
def low1 (c : UInt8) : Bool := decide (97 ≤ (c.toNat : Int) ∧ (c.toNat : Int) ≤ 122)
def nmB (s : ByteArray) : Bool := decide (1 ≤ s.size ∧ s.size ≤ 8) && s.data.toList.all low1

/-- The error of a wing behind others (0: none). -/
def chk1 (g : Wg) (before : List Wg) : Int :=
  if nmB g.name = false then 1 else if before.any (fun o => o.name.toList == g.name.toList) then 8 else
  if ¬ (1 ≤ g.len ∧ g.len ≤ 5000) then 2 else if ¬ (1 ≤ g.lo ∧ g.lo ≤ 200) ∨ ¬ (1 ≤ g.hi ∧ g.hi ≤ 200) then 2 else if g.hi < g.lo then 9 else 0
def chkW (before : List Wg) : List Wg → Int
  | [] => 0
  | g :: rest => if chk1 g before ≠ 0 then chk1 g before else chkW (before ++ [g]) rest
def chk (r : Int) (ws : List Wg) : Int :=
  if ¬ (1 ≤ r ∧ r ≤ 100000) then 2 else if ws.length = 0 then 4 else if 8 < ws.length then 5 else chkW [] ws

theorem any_snoc {bs : List Wg} {g : Wg} {k : Nat} (hk : k < bs.length) : (bs.take (k + 1)).any (fun o => o.name.toList == g.name.toList) = ((bs.take k).any (fun o => o.name.toList == g.name.toList) || ((gW bs k).name.toList == g.name.toList)) := by
  rw [List.take_succ_eq_append_getElem hk, List.any_append, gW_lt hk]; simp
theorem any_hit {bs : List Wg} {g : Wg} {k : Nat} (hk : k < bs.length) (h : ((gW bs k).name.toList == g.name.toList) = true) : bs.any (fun o => o.name.toList == g.name.toList) = true :=
  List.any_eq_true.2 ⟨bs[k], List.getElem_mem hk, by rw [gW_lt hk] at h; exact h⟩

theorem chk1_name {g : Wg} {bs : List Wg} (h : nmB g.name = false) : chk1 g bs = 1 := by unfold chk1; rw [if_pos h]
theorem chk1_twice {g : Wg} {bs : List Wg} (h : nmB g.name = true) (h2 : bs.any (fun o => o.name.toList == g.name.toList) = true) : chk1 g bs = 8 := by
  unfold chk1; rw [if_neg (by rw [h]; decide), if_pos h2]
theorem chk1_rest {g : Wg} {bs : List Wg} (h : nmB g.name = true) (h2 : bs.any (fun o => o.name.toList == g.name.toList) = false) :
    chk1 g bs = if ¬ (1 ≤ g.len ∧ g.len ≤ 5000) then 2 else if ¬ (1 ≤ g.lo ∧ g.lo ≤ 200) ∨ ¬ (1 ≤ g.hi ∧ g.hi ≤ 200) then 2 else if g.hi < g.lo then 9 else 0 := by
  unfold chk1; rw [if_neg (by rw [h]; decide), if_neg (by rw [h2]; decide)]

end Go.Proofs.Ytnihkgdkdinliaa
