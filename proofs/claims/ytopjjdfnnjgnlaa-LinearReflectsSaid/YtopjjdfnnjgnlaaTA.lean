/- linear: differences, weights, predictions, in mathematics -/
import Derived.Test.YtopjjdfnnjgnlaaInt
import Derived.Test.YtopjjdfnnjgnlaaFD
namespace Go.Proofs.Ytopjjdfnnjgnlaa
open Go.RowKit Go.Shelf

/-- from -m to m -/
def inM (m : Int) (xs : List Int) : Bool := xs.all fun v => decide (-m ≤ v ∧ v ≤ m)
theorem inM_yes {m : Int} {xs : List Int} (h : inM m xs = true) : ∀ x ∈ xs, -m ≤ x ∧ x ≤ m := fun x hx => of_decide_eq_true (List.all_eq_true.1 h x hx)
theorem inM_all {m : Int} {xs : List Int} (h : ∀ x ∈ xs, -m ≤ x ∧ x ≤ m) : inM m xs = true := List.all_eq_true.2 fun x hx => decide_eq_true (h x hx)
theorem inM_no {m : Int} {xs : List Int} {k : Nat} {x : Int} (h : xs[k]? = some x) (hx : x < -m ∨ m < x) : inM m xs = false := by
  cases e : inM m xs with
  | false => rfl
  | true => have := inM_yes e x (List.mem_of_getElem? h); omega
theorem inM_mono {a b : Int} (hab : a ≤ b) {xs : List Int} (h : inM a xs = true) : inM b xs = true := inM_all fun x hx => by have := inM_yes h x hx; omega
def ckE (m : Int) (xs : List Int) : Int := if 8192 < xs.length then 2 else if inM m xs then 0 else 6
theorem ckE_ok {m : Int} {xs : List Int} (h : ckE m xs = 0) : xs.length ≤ 8192 ∧ inM m xs = true := by
  unfold ckE at h
  by_cases h1 : 8192 < xs.length
  · rw [if_pos h1] at h; cases h
  · rw [if_neg h1] at h
    cases e : inM m xs with
    | true => exact ⟨by omega, rfl⟩
    | false => rw [e] at h; simp at h
theorem ckE_of {m : Int} {xs : List Int} (h1 : xs.length ≤ 8192) (h2 : inM m xs = true) : ckE m xs = 0 := by
  unfold ckE
  rw [if_neg (by omega), if_pos h2]

def difG : Int → List Int → List Int
  | _, [] => []
  | b, x :: l => (x - b) :: difG x l
def sumG : Int → List Int → List Int
  | _, [] => []
  | b, x :: l => (b + x) :: sumG (b + x) l
theorem difG_len : ∀ (b : Int) (l : List Int), (difG b l).length = l.length
  | _, [] => rfl
  | _, x :: l => by simp [difG, difG_len x l]
theorem sumG_len : ∀ (b : Int) (l : List Int), (sumG b l).length = l.length
  | _, [] => rfl
  | b, x :: l => by simp [sumG, sumG_len (b + x) l]
theorem sum_dif : ∀ (b : Int) (l : List Int), sumG b (difG b l) = l
  | _, [] => rfl
  | b, x :: l => by
    simp only [difG, sumG]
    rw [show b + (x - b) = x by omega, sum_dif x l]
theorem dif_sum : ∀ (b : Int) (l : List Int), difG b (sumG b l) = l
  | _, [] => rfl
  | b, x :: l => by
    simp only [difG, sumG]
    rw [show b + x - b = x by omega, dif_sum (b + x) l]
theorem difG_in {M : Int} : ∀ (b : Int) (l : List Int), (-M ≤ b ∧ b ≤ M) → inM M l = true → inM (2 * M) (difG b l) = true
  | _, [], _, _ => rfl
  | b, x :: l, hb, h => by
    have h1 := inM_yes h
    have hx := h1 x List.mem_cons_self
    have ih := inM_yes (difG_in x l hx (inM_all fun y hy => h1 y (List.mem_cons_of_mem _ hy)))
    refine inM_all fun y hy => ?_
    simp only [difG, List.mem_cons] at hy
    rcases hy with rfl | hy
    · omega
    · exact ih y hy
def difK : Nat → List Int → List Int
  | 0, l => l
  | k + 1, l => difG 0 (difK k l)
theorem difK_len : ∀ (k : Nat) (l : List Int), (difK k l).length = l.length
  | 0, _ => rfl
  | k + 1, l => by show (difG 0 (difK k l)).length = _; rw [difG_len, difK_len k l]
theorem difK_in : ∀ (k : Nat) {l : List Int}, inM 2097152 l = true → inM (2097152 * 2 ^ k) (difK k l) = true
  | 0, l, h => by rw [show (2097152 : Int) * 2 ^ 0 = 2097152 by decide]; exact h
  | k + 1, l, h => by
    have h0 : (0 : Int) < 2 ^ k := by
      have := Nat.two_pow_pos k
      have e : ((2 : Int) ^ k) = ((2 ^ k : Nat) : Int) := by simp
      omega
    have := difG_in (M := 2097152 * 2 ^ k) 0 (difK k l) ⟨by omega, by omega⟩ (difK_in k h)
    rw [show (2097152 : Int) * 2 ^ (k + 1) = 2 * (2097152 * 2 ^ k) by rw [Int.pow_succ]; omega]
    exact this
def addK : Nat → List Int → Option (List Int)
  | 0, l => if inM 2097152 l then some l else none
  | k + 1, l => if inM (2097152 * 2 ^ (k + 1)) l then addK k (sumG 0 l) else none
def diE (x : List Int) (k : Int) : Int := if k < 0 ∨ 4 < k then 1 else ckE 2097152 x
def diS (x : List Int) (k : Int) : List Int := if diE x k = 0 then difK k.toNat x else []
def adE (d : List Int) (k : Int) : Int := if k < 0 ∨ 4 < k then 1 else if ckE 67108864 d = 0 then (if (addK k.toNat d).isSome then 0 else 6) else ckE 67108864 d
def adS (d : List Int) (k : Int) : List Int := if adE d k = 0 then (addK k.toNat d).getD [] else []
theorem addK_dif : ∀ (k : Nat) {l : List Int}, inM 2097152 l = true → addK k (difK k l) = some l
  | 0, l, h => by show (if _ then _ else _) = _; rw [show difK 0 l = l from rfl, if_pos h]
  | k + 1, l, h => by
    show (if _ then _ else _) = _
    rw [if_pos (difK_in (k + 1) h)]
    show addK k (sumG 0 (difG 0 (difK k l))) = _
    rw [sum_dif, addK_dif k h]
theorem addK_some : ∀ (k : Nat) {d y : List Int}, addK k d = some y → inM 2097152 y = true ∧ difK k y = d
  | 0, d, y, h => by
    unfold addK at h
    split at h
    · rename_i hh
      injection h with h
      subst h
      exact ⟨hh, rfl⟩
    · cases h
  | k + 1, d, y, h => by
    unfold addK at h
    split at h
    · obtain ⟨h1, h2⟩ := addK_some k h
      refine ⟨h1, ?_⟩
      show difG 0 (difK k y) = d
      rw [h2, dif_sum]
    · cases h
theorem di_ok {x : List Int} {k : Int} (h : diE x k = 0) : ∃ n : Nat, k = (n : Int) ∧ n ≤ 4 ∧ x.length ≤ 8192 ∧ inM 2097152 x = true ∧ diS x k = difK n x := by
  have hS : diS x k = difK k.toNat x := if_pos h
  unfold diE at h
  by_cases h1 : k < 0 ∨ 4 < k
  · rw [if_pos h1] at h; cases h
  · rw [if_neg h1] at h
    exact ⟨k.toNat, by omega, by omega, (ckE_ok h).1, (ckE_ok h).2, hS⟩
theorem ad_ok {d : List Int} {k : Int} (h : adE d k = 0) : ∃ (n : Nat) (y : List Int), k = (n : Int) ∧ n ≤ 4 ∧ d.length ≤ 8192 ∧ inM 67108864 d = true ∧ addK n d = some y ∧ adS d k = y := by
  have hS : adS d k = (addK k.toNat d).getD [] := if_pos h
  unfold adE at h
  by_cases h1 : k < 0 ∨ 4 < k
  · rw [if_pos h1] at h; cases h
  · rw [if_neg h1] at h
    by_cases h2 : ckE 67108864 d = 0
    · rw [if_pos h2] at h
      cases e : addK k.toNat d with
      | none => rw [e] at h; simp at h
      | some y => exact ⟨k.toNat, y, by omega, by omega, (ckE_ok h2).1, (ckE_ok h2).2, e, by rw [hS, e]; rfl⟩
    · rw [if_neg h2] at h; exact absurd h h2
theorem pow2_le {n : Nat} (h : n ≤ 4) : (2 : Int) ^ n ≤ 16 := by
  have := Nat.pow_le_pow_right (show 0 < 2 by decide) h
  have e : ((2 : Int) ^ n) = ((2 ^ n : Nat) : Int) := by simp
  omega
theorem di_undone {x : List Int} {k : Int} (h : diE x k = 0) : adE (diS x k) k = 0 ∧ adS (diS x k) k = x := by
  obtain ⟨n, rfl, h4, hl, hin, e⟩ := di_ok h
  rw [e]
  have ha := addK_dif n hin
  have hc : ckE 67108864 (difK n x) = 0 := ckE_of (by rw [difK_len]; exact hl) (inM_mono (by have := pow2_le h4; omega) (difK_in n hin))
  have hE : adE (difK n x) (n : Int) = 0 := by
    unfold adE
    rw [if_neg (by omega), if_pos hc, Int.toNat_natCast, ha]
    rfl
  refine ⟨hE, ?_⟩
  unfold adS
  rw [if_pos hE, Int.toNat_natCast, ha]
  rfl
theorem ad_undone {d : List Int} {k : Int} (h : adE d k = 0) : diE (adS d k) k = 0 ∧ diS (adS d k) k = d := by
  obtain ⟨n, y, rfl, h4, hl, _, ha, e⟩ := ad_ok h
  rw [e]
  obtain ⟨h1, h2⟩ := addK_some n ha
  have hly : y.length ≤ 8192 := by rw [← h2, difK_len] at hl; exact hl
  have hE : diE y (n : Int) = 0 := by unfold diE; rw [if_neg (by omega)]; exact ckE_of hly h1
  refine ⟨hE, ?_⟩
  unfold diS
  rw [if_pos hE, Int.toNat_natCast, h2]

def isF (f : List Int) : Bool := decide (f.length ≤ 12) && inM 127 f
def wtStep (a : List Int) (k : Int) : List Int := ((List.range a.length).map fun i => a.getD i 0 + rnd (k * a.getD (a.length - 1 - i) 0) 128) ++ [32 * k]
def wtL (f : List Int) : List Int := f.foldl wtStep []
theorem wtStep_len (a : List Int) (k : Int) : (wtStep a k).length = a.length + 1 := by unfold wtStep; simp
theorem wtF_len (f a : List Int) : (f.foldl wtStep a).length = a.length + f.length := by
  induction f generalizing a with
  | nil => rfl
  | cons k f ih => rw [List.foldl_cons, ih, wtStep_len, List.length_cons]; omega
theorem wtL_len (f : List Int) : (wtL f).length = f.length := by unfold wtL; rw [wtF_len]; simp
theorem rnd_in {a B : Int} (hB : 0 ≤ B) (h : -(127 * B) ≤ a ∧ a ≤ 127 * B) : -B ≤ rnd a 128 ∧ rnd a 128 ≤ B := by unfold rnd; omega
theorem mul_in {k a B : Int} (hk : -127 ≤ k ∧ k ≤ 127) (ha : -B ≤ a ∧ a ≤ B) : -(127 * B) ≤ k * a ∧ k * a ≤ 127 * B := by
  have hB : 0 ≤ B := by omega
  have h1 : (k * a).natAbs ≤ 127 * B.natAbs := by
    rw [Int.natAbs_mul]
    exact Nat.mul_le_mul (by omega) (by omega)
  omega
theorem wtStep_in {a : List Int} {k B : Int} (hB : 4096 ≤ B) (hk : -127 ≤ k ∧ k ≤ 127) (ha : inM B a = true) : inM (2 * B) (wtStep a k) = true := by
  have h1 : ∀ i, -B ≤ a.getD i 0 ∧ a.getD i 0 ≤ B := fun i => by
    rw [List.getD_eq_getElem?_getD]
    cases e : a[i]? with
    | none => exact ⟨by show -B ≤ 0; omega, by show 0 ≤ B; omega⟩
    | some x => exact inM_yes ha x (List.mem_of_getElem? e)
  refine inM_all fun x hx => ?_
  unfold wtStep at hx
  rw [List.mem_append, List.mem_map] at hx
  rcases hx with ⟨i, _, rfl⟩ | hx
  · have h2 := h1 i
    have h3 := rnd_in (by omega) (mul_in hk (h1 (a.length - 1 - i)))
    omega
  · rw [List.mem_singleton] at hx
    subst hx
    omega
theorem wtF_in : ∀ (f : List Int) (a : List Int) (B : Int), 4096 ≤ B → inM 127 f = true → inM B a = true → inM (B * 2 ^ f.length) (f.foldl wtStep a) = true
  | [], a, B, _, _, h => by rw [show B * 2 ^ ([] : List Int).length = B by simp]; exact h
  | k :: f, a, B, hB, hf, h => by
    have h1 := inM_yes hf
    have := wtF_in f (wtStep a k) (2 * B) (by omega) (inM_all fun x hx => h1 x (List.mem_cons_of_mem _ hx)) (wtStep_in hB (h1 k List.mem_cons_self) h)
    rw [List.foldl_cons, List.length_cons, show B * 2 ^ (f.length + 1) = 2 * B * 2 ^ f.length by rw [Int.pow_succ, Int.mul_comm ((2 : Int) ^ f.length) 2, ← Int.mul_assoc, Int.mul_comm B 2]]
    exact this
theorem wt_bd {f : List Int} (h : isF f = true) : (wtL f).length = f.length ∧ f.length ≤ 12 ∧ inM 16777216 (wtL f) = true := by
  unfold isF at h
  rw [Bool.and_eq_true, decide_eq_true_eq] at h
  refine ⟨wtL_len f, h.1, inM_mono ?_ (wtF_in f [] 4096 (by omega) h.2 rfl)⟩
  have := Nat.pow_le_pow_right (show 0 < 2 by decide) h.1
  have e : ((2 : Int) ^ f.length) = ((2 ^ f.length : Nat) : Int) := by simp
  omega

def dotL : List Int → List Int → Int
  | a :: l, b :: m => a * b + dotL l m
  | _, _ => 0
theorem dotL_nil (m : List Int) : dotL [] m = 0 := by unfold dotL; rfl
theorem dotL_nil2 (l : List Int) : dotL l [] = 0 := by cases l <;> rfl
theorem dotL_zero : ∀ (l m : List Int), (∀ x ∈ l, x = 0) → dotL l m = 0
  | [], m, _ => dotL_nil m
  | a :: l, [], _ => rfl
  | a :: l, b :: m, h => by
    show a * b + dotL l m = 0
    rw [h a List.mem_cons_self, dotL_zero l m fun x hx => h x (List.mem_cons_of_mem _ hx)]
    omega
theorem dotL_app : ∀ (l m : List Int) (n : List Int), (∀ x ∈ m, x = 0) → dotL (l ++ m) n = dotL l n
  | [], m, n, h => by rw [List.nil_append, dotL_zero m n h, dotL_nil]
  | a :: l, m, [], h => by rw [List.cons_append]; rfl
  | a :: l, m, b :: n, h => by
    show a * b + dotL (l ++ m) n = a * b + dotL l n
    rw [dotL_app l m n h]
theorem abs_mul_in {a b A B : Int} (ha : -A ≤ a ∧ a ≤ A) (hb : -B ≤ b ∧ b ≤ B) : -(A * B) ≤ a * b ∧ a * b ≤ A * B := by
  have h1 : (a * b).natAbs ≤ (A * B).natAbs := by
    rw [Int.natAbs_mul, Int.natAbs_mul]
    exact Nat.mul_le_mul (by omega) (by omega)
  have h2 : 0 ≤ A * B := Int.mul_nonneg (by omega) (by omega)
  omega
theorem dotL_in {A B : Int} : ∀ (l m : List Int), inM A l = true → inM B m = true → -(A * B * (min l.length m.length : Nat)) ≤ dotL l m ∧ dotL l m ≤ A * B * (min l.length m.length : Nat)
  | [], m, _, _ => by rw [dotL_nil]; simp
  | a :: l, [], _, _ => by rw [dotL_nil2]; simp
  | a :: l, b :: m, h1, h2 => by
    have g1 := inM_yes h1
    have g2 := inM_yes h2
    have ih := dotL_in l m (inM_all fun x hx => g1 x (List.mem_cons_of_mem _ hx)) (inM_all fun x hx => g2 x (List.mem_cons_of_mem _ hx))
    have hp := abs_mul_in (g1 a List.mem_cons_self) (g2 b List.mem_cons_self)
    have e : dotL (a :: l) (b :: m) = a * b + dotL l m := rfl
    rw [e, List.length_cons, List.length_cons, show min (l.length + 1) (m.length + 1) = min l.length m.length + 1 by omega, Int.natCast_add, Int.mul_add]
    generalize min l.length m.length = n at *
    generalize A * B = P at *
    omega
def prd (ws s : List Int) : Int := rnd (-(dotL ws s)) 4096
def seeL (s : List Int) (v : Int) : List Int := v :: s.take 11
theorem seeL_len {s : List Int} (v : Int) (h : s.length = 12) : (seeL s v).length = 12 := by unfold seeL; rw [List.length_cons, List.length_take]; omega
theorem seeL_in {s : List Int} {v B : Int} (h : inM B s = true) (hv : -B ≤ v ∧ v ≤ B) : inM B (seeL s v) = true := by
  have := inM_yes h
  refine inM_all fun x hx => ?_
  unfold seeL at hx
  rw [List.mem_cons] at hx
  rcases hx with rfl | hx
  · exact hv
  · exact this x (List.mem_of_mem_take hx)
theorem prd_in {ws s : List Int} (hw : inM 16777216 ws = true) (hs : inM 2097152 s = true) (hl : ws.length ≤ 12) : -422212465065984 ≤ dotL ws s ∧ dotL ws s ≤ 422212465065984 ∧ -103079215105 ≤ prd ws s ∧ prd ws s ≤ 103079215105 := by
  have h := dotL_in ws s hw hs
  have hn : (min ws.length s.length : Nat) ≤ 12 := by omega
  generalize min ws.length s.length = n at *
  have h2 : (16777216 : Int) * 2097152 * (n : Int) ≤ 422212465065984 := by omega
  unfold prd rnd
  omega
def resG (ws : List Int) : List Int → List Int → List Int
  | _, [] => []
  | s, v :: l => (v - prd ws s) :: resG ws (seeL s v) l
def rstG (ws : List Int) : List Int → List Int → Option (List Int)
  | _, [] => some []
  | s, v :: l => if -2097152 ≤ v + prd ws s ∧ v + prd ws s ≤ 2097152 then (rstG ws (seeL s (v + prd ws s)) l).map fun y => (v + prd ws s) :: y else none
theorem resG_len (ws : List Int) : ∀ (s l : List Int), (resG ws s l).length = l.length
  | _, [] => rfl
  | s, v :: l => by show (_ :: resG ws (seeL s v) l).length = _; rw [List.length_cons, resG_len ws (seeL s v) l, List.length_cons]
theorem rst_res {ws : List Int} : ∀ (l s : List Int), inM 2097152 l = true → rstG ws s (resG ws s l) = some l
  | [], _, _ => rfl
  | v :: l, s, h => by
    have h1 := inM_yes h
    have hv := h1 v List.mem_cons_self
    have ih := rst_res (ws := ws) l (seeL s v) (inM_all fun x hx => h1 x (List.mem_cons_of_mem _ hx))
    show (if _ then _ else _) = _
    rw [show v - prd ws s + prd ws s = v by omega, if_pos hv, ih]
    rfl
theorem res_rst {ws : List Int} : ∀ (l s y : List Int), rstG ws s l = some y → resG ws s y = l ∧ inM 2097152 y = true ∧ y.length = l.length
  | [], s, y, h => by
    injection h with h
    subst h
    exact ⟨rfl, rfl, rfl⟩
  | v :: l, s, y, h => by
    unfold rstG at h
    split at h
    · rename_i hv
      cases e : rstG ws (seeL s (v + prd ws s)) l with
      | none => rw [e] at h; cases h
      | some z =>
        rw [e] at h
        injection h with h
        subst h
        obtain ⟨i1, i2, i3⟩ := res_rst l _ z e
        refine ⟨?_, ?_, by rw [List.length_cons, List.length_cons, i3]⟩
        · show (_ :: resG ws _ z) = _
          rw [i1, show v + prd ws s - prd ws s = v by omega]
        · have := inM_yes i2
          refine inM_all fun x hx => ?_
          rw [List.mem_cons] at hx
          rcases hx with rfl | hx
          · exact hv
          · exact this x hx
    · cases h
theorem resG_in {ws : List Int} (hw : inM 16777216 ws = true) (hl : ws.length ≤ 12) : ∀ (l s : List Int), inM 2097152 l = true → inM 2097152 s = true → inM 1099511627776 (resG ws s l) = true
  | [], _, _, _ => rfl
  | v :: l, s, h, hs => by
    have h1 := inM_yes h
    have hv := h1 v List.mem_cons_self
    have hp := prd_in hw hs hl
    have ih := inM_yes (resG_in hw hl l (seeL s v) (inM_all fun x hx => h1 x (List.mem_cons_of_mem _ hx)) (seeL_in hs hv))
    refine inM_all fun x hx => ?_
    show _
    have hx : x ∈ (v - prd ws s) :: resG ws (seeL s v) l := hx
    rw [List.mem_cons] at hx
    rcases hx with rfl | hx
    · omega
    · exact ih x hx
def s0L : List Int := List.replicate 12 0
theorem s0_in : inM 2097152 s0L = true := by decide
def reE (m : Int) (x f : List Int) : Int := if isF f then ckE m x else 1
def reS (x f : List Int) : List Int := if reE 2097152 x f = 0 then resG (wtL f) s0L x else []
def rsE (d f : List Int) : Int := if reE 1099511627776 d f = 0 then (if (rstG (wtL f) s0L d).isSome then 0 else 6) else reE 1099511627776 d f
def rsS (d f : List Int) : List Int := if rsE d f = 0 then (rstG (wtL f) s0L d).getD [] else []
theorem reE_ok {m : Int} {x f : List Int} (h : reE m x f = 0) : isF f = true ∧ x.length ≤ 8192 ∧ inM m x = true := by
  unfold reE at h
  cases e : isF f with
  | false => rw [e] at h; simp at h
  | true => rw [e, if_pos rfl] at h; exact ⟨rfl, ckE_ok h⟩
theorem reE_of {m : Int} {x f : List Int} (h1 : isF f = true) (h2 : x.length ≤ 8192) (h3 : inM m x = true) : reE m x f = 0 := by
  unfold reE
  rw [if_pos h1]
  exact ckE_of h2 h3
theorem rsE_ok {d f : List Int} (h : rsE d f = 0) : ∃ y, isF f = true ∧ d.length ≤ 8192 ∧ inM 1099511627776 d = true ∧ rstG (wtL f) s0L d = some y ∧ rsS d f = y := by
  have hS : rsS d f = (rstG (wtL f) s0L d).getD [] := if_pos h
  unfold rsE at h
  by_cases h1 : reE 1099511627776 d f = 0
  · rw [if_pos h1] at h
    obtain ⟨g1, g2, g3⟩ := reE_ok h1
    cases e : rstG (wtL f) s0L d with
    | none => rw [e] at h; simp at h
    | some y => exact ⟨y, g1, g2, g3, rfl, by rw [hS, e]; rfl⟩
  · rw [if_neg h1] at h; exact absurd h h1
theorem re_undone {x f : List Int} (h : reE 2097152 x f = 0) : rsE (reS x f) f = 0 ∧ rsS (reS x f) f = x := by
  obtain ⟨h1, h2, h3⟩ := reE_ok h
  obtain ⟨w1, w2, w3⟩ := wt_bd h1
  have e : reS x f = resG (wtL f) s0L x := if_pos h
  have hr : reE 1099511627776 (resG (wtL f) s0L x) f = 0 := reE_of h1 (by rw [resG_len]; exact h2) (resG_in w3 (by omega) x s0L h3 s0_in)
  have ha := rst_res (ws := wtL f) x s0L h3
  rw [e]
  have hE : rsE (resG (wtL f) s0L x) f = 0 := by
    unfold rsE
    rw [if_pos hr, ha]
    rfl
  refine ⟨hE, ?_⟩
  unfold rsS
  rw [if_pos hE, ha]
  rfl
theorem rs_undone {d f : List Int} (h : rsE d f = 0) : reE 2097152 (rsS d f) f = 0 ∧ reS (rsS d f) f = d := by
  obtain ⟨y, h1, h2, h3, h4, h5⟩ := rsE_ok h
  rw [h5]
  obtain ⟨g1, g2, g3⟩ := res_rst d s0L y h4
  have hE : reE 2097152 y f = 0 := reE_of h1 (by omega) g2
  refine ⟨hE, ?_⟩
  unfold reS
  rw [if_pos hE, g1]
end Go.Proofs.Ytopjjdfnnjgnlaa
