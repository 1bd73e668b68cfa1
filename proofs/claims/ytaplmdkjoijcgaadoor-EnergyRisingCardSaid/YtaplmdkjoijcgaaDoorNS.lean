/- bands: the order in mathematics -/
import Derived.Test.YtaplmdkjoijcgaaDoorNQ
import Derived.Deep.AppendLies
import Derived.Deep.RegionLaw
import Derived.Laws.CopyOwn
namespace Go.Proofs.YtaplmdkjoijcgaaDoor
open Go.RowKit Go.Shelf

/-- the k-th block's piece of the j-th band of the i-th group -/
def pcA (ln : Int) (ws gs : List Int) (i j k : Nat) : Int × Int := (ln * (spT gs i + k) + spT ws j, ln * (spT gs i + k) + spT ws (j + 1))
def pcJ (ln : Int) (ws gs : List Int) (i j : Nat) : List (Int × Int) := (List.range (gs.getD i 0).toNat).map fun k => pcA ln ws gs i j k
def pcI (ln : Int) (ws gs : List Int) (i : Nat) : List (Int × Int) := (List.range ws.length).flatMap fun j => pcJ ln ws gs i j
def pcL (ln : Int) (ws gs : List Int) : List (Int × Int) := (List.range gs.length).flatMap fun i => pcI ln ws gs i
/-- the positions of a piece -/
def upI (x : Int × Int) : List Int := (List.range (x.2 - x.1).toNat).map fun (t : Nat) => x.1 + t
/-- the pieces, and the order -/
def pcs (s : Bool) (gs : List Int) : List (Int × Int) := pcL (dLn s) (dW s) (dG s gs)
def plI (s : Bool) (gs : List Int) : List Int := (pcs s gs).flatMap upI
theorem fm_prefix {α : Type} (g : Nat → List α) {i n : Nat} (h : i < n) {a : List α} (ha : a <+: g i) : (List.range i).flatMap g ++ a <+: (List.range n).flatMap g := by
  have e : (List.range (i + 1)).flatMap g = (List.range i).flatMap g ++ g i := by rw [List.range_succ, List.flatMap_append]; simp
  have h1 : (List.range i).flatMap g ++ a <+: (List.range (i + 1)).flatMap g := by rw [e]; exact (List.prefix_append_right_inj _).2 ha
  refine h1.trans ?_
  obtain ⟨d, rfl⟩ : ∃ d, n = i + 1 + d := ⟨n - (i + 1), by omega⟩
  rw [List.range_add (n := i + 1), List.flatMap_append]
  exact List.prefix_append _ _
theorem map_prefix {α : Type} (g : Nat → α) {i n : Nat} (h : i < n) : (List.range i).map g ++ [g i] <+: (List.range n).map g := by
  have e : (List.range (i + 1)).map g = (List.range i).map g ++ [g i] := by rw [List.range_succ, List.map_append]; simp
  rw [← e]
  obtain ⟨d, rfl⟩ : ∃ d, n = i + 1 + d := ⟨n - (i + 1), by omega⟩
  rw [List.range_add (n := i + 1), List.map_append]
  exact List.prefix_append _ _
/-- all compositions of a number -/
def cmp : Nat → List (List Int)
  | 0 => [[]]
  | n + 1 => (cmp n).flatMap fun l => match l with
    | [] => [[1]]
    | b :: t => [1 :: b :: t, (b + 1) :: t]
theorem mem_cmp : ∀ (n : Nat) (gs : List Int), (∀ b ∈ gs, 1 ≤ b) → gs.sum = (n : Int) → gs ∈ cmp n
  | 0, [], _, _ => by simp [cmp]
  | 0, b :: t, h, hs => by
    exfalso
    have h1 := h b (List.mem_cons_self ..)
    have h2 : 0 ≤ t.sum := by
      clear hs h1
      have h' : ∀ x ∈ t, 1 ≤ x := fun x hx => h x (List.mem_cons_of_mem _ hx)
      clear h
      induction t with
      | nil => simp
      | cons y u ih =>
        have := ih (fun x hx => h' x (List.mem_cons_of_mem _ hx))
        have := h' y (List.mem_cons_self ..)
        rw [List.sum_cons]; omega
    rw [List.sum_cons] at hs
    omega
  | n + 1, [], _, hs => by simp at hs; omega
  | n + 1, b :: t, h, hs => by
    have h1 := h b (List.mem_cons_self ..)
    have ht : ∀ x ∈ t, 1 ≤ x := fun x hx => h x (List.mem_cons_of_mem _ hx)
    rw [List.sum_cons] at hs
    unfold cmp
    rw [List.mem_flatMap]
    by_cases hb : b = 1
    · subst hb
      refine ⟨t, mem_cmp n t ht (by omega), ?_⟩
      cases t with
      | nil => simp
      | cons y u => simp
    · refine ⟨(b - 1) :: t, mem_cmp n _ ?_ ?_, ?_⟩
      · intro x hx
        rcases List.mem_cons.1 hx with rfl | hx
        · omega
        · exact ht x hx
      · rw [List.sum_cons]; omega
      · simp
def divs : List (Bool × List Int) := (false, []) :: (cmp 8).map fun l => (true, l)
theorem mem_divs {s : Bool} {gs : List Int} (h : isD s gs = true) : (s, gs) ∈ divs := by
  unfold divs
  cases s with
  | false =>
    have : gs = [] := by cases gs with
      | nil => rfl
      | cons _ _ => cases h
    rw [this]; exact List.mem_cons_self ..
  | true =>
    have h' : isG 8 gs = true := h
    obtain ⟨h1, h2⟩ := isG_iff.1 h'
    exact List.mem_cons_of_mem _ (List.mem_map.2 ⟨gs, mem_cmp 8 gs h1 h2, rfl⟩)
theorem by_divs {p : Bool → List Int → Bool} (hp : (divs.all fun x => p x.1 x.2) = true) {s : Bool} {gs : List Int} (h : isD s gs = true) : p s gs = true :=
  List.all_eq_true.1 hp _ (mem_divs h)
/-- the pieces lie within a frame -/
theorem pcs_bd {s : Bool} {gs : List Int} (h : isD s gs = true) : ∀ x ∈ pcs s gs, 0 ≤ x.1 ∧ x.1 ≤ x.2 ∧ x.2 ≤ 128 := by
  have := by_divs (p := fun s gs => (pcs s gs).all fun x => decide (0 ≤ x.1 ∧ x.1 ≤ x.2 ∧ x.2 ≤ 128)) (by decide +kernel) h
  intro x hx
  exact of_decide_eq_true (List.all_eq_true.1 this x hx)
def once (m : Nat) : List Int → Bool
  | [] => true
  | p :: t => decide (0 ≤ p ∧ p < 128) && !m.testBit p.toNat && once (m ||| 2 ^ p.toNat) t
def maskF (m : Nat) : List Int → Nat
  | [] => m
  | p :: t => maskF (m ||| 2 ^ p.toNat) t
theorem plI_dec {s : Bool} {gs : List Int} (h : isD s gs = true) : (plI s gs).length = 128 ∧ once 0 (plI s gs) = true ∧ maskF 0 (plI s gs) = 2 ^ 128 - 1 := by
  have := by_divs (p := fun s gs => decide ((plI s gs).length = 128 ∧ once 0 (plI s gs) = true ∧ maskF 0 (plI s gs) = 2 ^ 128 - 1)) (by decide +kernel) h
  exact of_decide_eq_true this
theorem once_bd : ∀ {l : List Int} {m : Nat}, once m l = true → l.Nodup ∧ ∀ p ∈ l, (0 ≤ p ∧ p < 128) ∧ m.testBit p.toNat = false
  | [], m, _ => ⟨List.nodup_nil, fun p hp => by cases hp⟩
  | p :: t, m, h => by
    unfold once at h
    simp only [Bool.and_eq_true, decide_eq_true_eq, Bool.not_eq_true'] at h
    obtain ⟨⟨h1, h2⟩, h3⟩ := h
    obtain ⟨i1, i2⟩ := once_bd h3
    refine ⟨List.nodup_cons.2 ⟨fun hp => ?_, i1⟩, fun q hq => ?_⟩
    · have := (i2 p hp).2
      rw [Nat.testBit_or, Nat.testBit_two_pow_self] at this
      simp at this
    · rcases List.mem_cons.1 hq with rfl | hq
      · exact ⟨h1, h2⟩
      · obtain ⟨j1, j2⟩ := i2 q hq
        rw [Nat.testBit_or] at j2
        exact ⟨j1, (Bool.or_eq_false_iff.1 j2).1⟩
theorem maskF_mem : ∀ {l : List Int} {m i : Nat}, (∀ p ∈ l, 0 ≤ p) → (maskF m l).testBit i = true → m.testBit i = true ∨ (i : Int) ∈ l
  | [], m, i, _, h => .inl h
  | p :: t, m, i, h0, h => by
    unfold maskF at h
    rcases maskF_mem (fun q hq => h0 q (List.mem_cons_of_mem _ hq)) h with h | h
    · rw [Nat.testBit_or, Bool.or_eq_true] at h
      rcases h with h | h
      · exact .inl h
      · right
        rw [Nat.testBit_two_pow] at h
        have e : p.toNat = i := of_decide_eq_true h
        have := h0 p (List.mem_cons_self ..)
        have e2 : (i : Int) = p := by omega
        rw [e2]; exact List.mem_cons_self ..
    · exact .inr (List.mem_cons_of_mem _ h)
/-- each position stands once in the order -/
theorem plI_perm {s : Bool} {gs : List Int} (h : isD s gs = true) : (plI s gs).length = 128 ∧ (plI s gs).Nodup ∧ (∀ p ∈ plI s gs, 0 ≤ p ∧ p < 128) ∧ ∀ i : Nat, i < 128 → (i : Int) ∈ plI s gs := by
  obtain ⟨h1, h2, h3⟩ := plI_dec h
  obtain ⟨i1, i2⟩ := once_bd h2
  refine ⟨h1, i1, fun p hp => (i2 p hp).1, fun i hi => ?_⟩
  have : (maskF 0 (plI s gs)).testBit i = true := by rw [h3, Nat.testBit_two_pow_sub_one]; exact decide_eq_true hi
  rcases maskF_mem (fun p hp => (i2 p hp).1.1) this with h | h
  · simp at h
  · exact h

/-- the elements of a piece -/
def cutP (c : List Int) (x : Int × Int) : List Int := (c.drop x.1.toNat).take (x.2 - x.1).toNat
theorem cutP_eq {c : List Int} {x : Int × Int} (h0 : 0 ≤ x.1) (h2 : x.2 ≤ (c.length : Int)) : cutP c x = (upI x).map fun p => c.getD p.toNat 0 := by
  unfold cutP upI
  rw [List.map_map]
  apply List.ext_getElem?
  intro j
  rw [List.getElem?_take]
  by_cases hj : j < (x.2 - x.1).toNat
  · rw [if_pos hj, List.getElem?_drop, List.getElem?_map, List.getElem?_range hj]
    have hl : x.1.toNat + j < c.length := by omega
    have e : (x.1 + (j : Int)).toNat = x.1.toNat + j := by omega
    simp only [Option.map_some, Function.comp_apply, e]
    rw [List.getElem?_eq_getElem hl, List.getD_eq_getElem?_getD, List.getElem?_eq_getElem hl]; rfl
  · rw [if_neg hj, List.getElem?_map, List.getElem?_eq_none (by rw [List.length_range]; omega)]; rfl
theorem cutP_len {c : List Int} {x : Int × Int} (h0 : 0 ≤ x.1) (h2 : x.2 ≤ (c.length : Int)) : (cutP c x).length = (x.2 - x.1).toNat := by
  unfold cutP; rw [List.length_take, List.length_drop]; omega
/-- a list in an order -/
def gaL (ps c : List Int) : List Int := ps.map fun p => c.getD p.toNat 0
theorem gaL_pieces {c : List Int} : ∀ {l : List (Int × Int)}, (∀ x ∈ l, 0 ≤ x.1 ∧ x.1 ≤ x.2 ∧ x.2 ≤ (c.length : Int)) → l.flatMap (cutP c) = gaL (l.flatMap upI) c
  | [], _ => rfl
  | x :: t, h => by
    obtain ⟨a, _, d⟩ := h x (List.mem_cons_self ..)
    unfold gaL
    rw [List.flatMap_cons, List.flatMap_cons, List.map_append, cutP_eq a d, gaL_pieces (fun y hy => h y (List.mem_cons_of_mem _ hy))]; rfl
/-- the list whose elements in an order are these -/
def scL (ps c o : List Int) : List Int := (ps.zip c).foldl (fun o p => o.set p.1.toNat p.2) o
def sc0 (ps c : List Int) : List Int := scL ps c (List.replicate 128 0)
theorem scL_len : ∀ (ps c o : List Int), (scL ps c o).length = o.length
  | [], _, _ => rfl
  | _ :: _, [], _ => rfl
  | p :: ps, v :: c, o => by
    show (scL ps c (o.set p.toNat v)).length = _
    rw [scL_len, List.length_set]
theorem scL_append : ∀ (ps qs c o : List Int), ps.length ≤ c.length → scL (ps ++ qs) c o = scL qs (c.drop ps.length) (scL ps c o)
  | [], _, _, _, _ => rfl
  | p :: ps, qs, [], _, h => by simp at h
  | p :: ps, qs, v :: c, o, h => by
    show scL (ps ++ qs) c (o.set p.toNat v) = scL qs (c.drop ps.length) (scL ps c (o.set p.toNat v))
    exact scL_append ps qs c _ (by simpa using h)
theorem scL_run : ∀ (n a : Nat) (cs o : List Int), cs.length = n → a + n ≤ o.length → scL ((List.range n).map fun (t : Nat) => (a : Int) + t) cs o = splice o a cs
  | 0, a, cs, o, hn, _ => by
    obtain rfl := List.eq_nil_of_length_eq_zero hn
    show o = splice o a []
    unfold splice; simp
  | n + 1, a, [], o, hn, _ => by simp at hn
  | n + 1, a, v :: t, o, hn, hl => by
    have hn' : t.length = n := by simpa using hn
    have e : (List.range (n + 1)).map (fun (t : Nat) => (a : Int) + t) = (a : Int) :: (List.range n).map (fun (t : Nat) => ((a + 1 : Nat) : Int) + t) := by
      rw [List.range_succ_eq_map, List.map_cons, List.map_map]
      rw [show ((a : Int) + ((0 : Nat) : Int)) = (a : Int) by omega]
      congr 1
      apply List.map_congr_left; intro x _; simp only [Function.comp_apply]; omega
    rw [e]
    show scL _ t (o.set (a : Int).toNat v) = _
    rw [Int.toNat_natCast, scL_run n (a + 1) t (o.set a v) hn' (by rw [List.length_set]; omega)]
    unfold splice
    have e2 : o.set a v = o.take a ++ v :: o.drop (a + 1) := by rw [List.set_eq_take_append_cons_drop, if_pos (by omega)]
    have h3 : (o.take a ++ v :: o.drop (a + 1)).take (a + 1) = o.take a ++ [v] := by
      rw [List.take_append, List.length_take, Nat.min_eq_left (by omega), show a + 1 - a = 1 by omega, List.take_of_length_le (by rw [List.length_take]; omega)]; rfl
    have h4 : (o.take a ++ v :: o.drop (a + 1)).drop (a + 1 + t.length) = o.drop (a + (t.length + 1)) := by
      rw [List.drop_append, List.length_take, Nat.min_eq_left (by omega), List.drop_eq_nil_of_le (by rw [List.length_take]; omega), List.nil_append, show a + 1 + t.length - a = t.length + 1 by omega, List.drop_succ_cons, List.drop_drop]
      congr 1; omega
    rw [e2, h3, h4, List.append_assoc, List.length_cons]; rfl
theorem scL_take : ∀ (ps c o : List Int), scL ps (c.take ps.length) o = scL ps c o
  | [], _, _ => rfl
  | _ :: _, [], _ => rfl
  | p :: ps, v :: c, o => scL_take ps c (o.set p.toNat v)
theorem scL_piece {c o : List Int} {x : Int × Int} (h0 : 0 ≤ x.1) (h1 : x.1 ≤ x.2) (h2 : x.2 ≤ (o.length : Int)) (hc : (x.2 - x.1).toNat ≤ c.length) :
    scL (upI x) c o = splice o x.1.toNat (c.take (x.2 - x.1).toNat) := by
  have e : scL (upI x) c o = scL (upI x) (c.take (x.2 - x.1).toNat) o := by
    have hl : (upI x).length = (x.2 - x.1).toNat := by unfold upI; simp
    rw [← hl, scL_take]
  rw [e, ← scL_run (x.2 - x.1).toNat x.1.toNat _ o (by rw [List.length_take]; omega) (by omega)]
  unfold upI
  rw [show ((x.1.toNat : Nat) : Int) = x.1 by omega]
/-- where nothing is put, all stays -/
theorem scL_other : ∀ (ps c o : List Int) (q : Int), (∀ p ∈ ps, 0 ≤ p) → 0 ≤ q → q ∉ ps → (scL ps c o)[q.toNat]? = o[q.toNat]?
  | [], _, _, _, _, _, _ => rfl
  | _ :: _, [], _, _, _, _, _ => rfl
  | p :: ps, v :: c, o, q, h0, hq, hn => by
    show (scL ps c (o.set p.toNat v))[q.toNat]? = _
    rw [scL_other ps c _ q (fun x hx => h0 x (List.mem_cons_of_mem _ hx)) hq (fun h => hn (List.mem_cons_of_mem _ h))]
    have hp := h0 p (List.mem_cons_self ..)
    have hne : p ≠ q := fun e => hn (by rw [e]; exact List.mem_cons_self ..)
    rw [List.getElem?_set_ne (by omega)]
theorem scL_at : ∀ (ps c o : List Int) (k : Nat) (p v : Int), ps.Nodup → (∀ p ∈ ps, 0 ≤ p ∧ p < (o.length : Int)) → ps[k]? = some p → c[k]? = some v → (scL ps c o)[p.toNat]? = some v
  | [], _, _, _, _, _, _, _, h, _ => by simp at h
  | _ :: _, [], _, _, _, _, _, _, _, h => by simp at h
  | q :: ps, u :: c, o, 0, p, v, hn, hb, hp, hv => by
    simp only [List.getElem?_cons_zero, Option.some.injEq] at hp hv
    subst hp; subst hv
    obtain ⟨h1, h2⟩ := List.nodup_cons.1 hn
    obtain ⟨b1, b2⟩ := hb q (List.mem_cons_self ..)
    show (scL ps c (o.set q.toNat u))[q.toNat]? = _
    rw [scL_other ps c _ q (fun x hx => (hb x (List.mem_cons_of_mem _ hx)).1) b1 h1, List.getElem?_set_self (by omega)]
  | q :: ps, u :: c, o, k + 1, p, v, hn, hb, hp, hv => by
    simp only [List.getElem?_cons_succ] at hp hv
    exact scL_at ps c (o.set q.toNat u) k p v (List.nodup_cons.1 hn).2 (fun x hx => by rw [List.length_set]; exact hb x (List.mem_cons_of_mem _ hx)) hp hv
/-- what was scattered, gathered -/
theorem ga_sc {ps c : List Int} (hl : ps.length = 128) (hc : c.length = 128) (hn : ps.Nodup) (hb : ∀ p ∈ ps, 0 ≤ p ∧ p < 128) : gaL ps (sc0 ps c) = c := by
  apply List.ext_getElem?
  intro k
  unfold gaL
  rw [List.getElem?_map]
  by_cases hk : k < 128
  · obtain ⟨p, hp⟩ : ∃ p, ps[k]? = some p := ⟨_, List.getElem?_eq_getElem (by omega)⟩
    obtain ⟨v, hv⟩ : ∃ v, c[k]? = some v := ⟨_, List.getElem?_eq_getElem (by omega)⟩
    have := scL_at ps c (List.replicate 128 0) k p v hn (fun x hx => by simpa using hb x hx) hp hv
    rw [hp, hv, Option.map_some, List.getD_eq_getElem?_getD]
    unfold sc0
    rw [this]; rfl
  · rw [List.getElem?_eq_none (by omega), List.getElem?_eq_none (by omega)]; rfl
theorem sc_ga {ps c : List Int} (hc : c.length = 128) (hn : ps.Nodup) (hb : ∀ p ∈ ps, 0 ≤ p ∧ p < 128) (ha : ∀ i : Nat, i < 128 → (i : Int) ∈ ps) : sc0 ps (gaL ps c) = c := by
  apply List.ext_getElem?
  intro i
  by_cases hi : i < 128
  · obtain ⟨k, hk⟩ := List.getElem?_of_mem (ha i hi)
    have hv : (gaL ps c)[k]? = some (c.getD i 0) := by unfold gaL; rw [List.getElem?_map, hk]; simp
    have := scL_at ps (gaL ps c) (List.replicate 128 0) k (i : Int) _ hn (fun x hx => by simpa using hb x hx) hk hv
    rw [Int.toNat_natCast] at this
    unfold sc0
    rw [this, List.getElem?_eq_getElem (by omega : i < c.length), List.getD_eq_getElem?_getD, List.getElem?_eq_getElem (by omega : i < c.length)]; rfl
  · rw [List.getElem?_eq_none (by unfold sc0; rw [scL_len, List.length_replicate]; omega), List.getElem?_eq_none (by omega)]
end Go.Proofs.YtaplmdkjoijcgaaDoor
