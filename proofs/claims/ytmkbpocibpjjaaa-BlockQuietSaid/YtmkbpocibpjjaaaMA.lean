/- block: what the law of quiet samples says of lists -/
import Derived.Test.YtmkbpocibpjjaaaLX
namespace Go.Proofs.Ytmkbpocibpjjaaa
open Go.RowKit Go.Shelf

theorem ckE_of {xs : List Int} (h1 : xs.length % 128 = 0) (h2 : xs.length ≤ 8192) (h3 : allIn (-65536) 65536 xs = true) : ckE xs = 0 := by
  unfold ckE
  rw [if_neg (by omega), if_pos h3]
theorem en_congr {xs ys : List Int} {k : Nat} (h : ∀ i, i < 16 * k + 16 → xs.getD i 0 = ys.getD i 0) : en xs k = en ys k := by
  have hp : ∀ i, i < 16 * k + 16 → prevI xs i = prevI ys i := fun i hi => by
    unfold prevI
    split
    · rfl
    · exact h _ (by omega)
  have hd : ∀ i, i < 16 * k + 16 → difI xs i = difI ys i := fun i hi => by unfold difI; rw [h i hi, hp i hi]
  have ht : ∀ j, j ≤ 16 → enT xs k j = enT ys k j := by
    intro j
    induction j with
    | zero => intro _; rfl
    | succ j ih =>
      intro hj
      show enT xs k j + difI xs (16 * k + j) * difI xs (16 * k + j) = enT ys k j + difI ys (16 * k + j) * difI ys (16 * k + j)
      rw [ih (by omega), hd _ (by omega)]
  exact ht 16 (Nat.le_refl _)
theorem ens_getD {xs : List Int} {k : Nat} (hk : k < xs.length / 16) : (ens xs)[k]? = some (en xs k) := by
  unfold ens; rw [List.getElem?_map, List.getElem?_range hk]; rfl
theorem attB_congr {es fs : List Int} {k : Nat} (hl : es.length = fs.length) (h : ∀ i, i ≤ k → es[i]? = fs[i]?) : attB es k = attB fs k := by
  have hr : rcn es k = rcn fs k := by
    unfold rcn
    refine List.ext_getElem? fun i => ?_
    rw [List.getElem?_take, List.getElem?_take, List.getElem?_drop, List.getElem?_drop]
    split
    · exact h _ (by omega)
    · rfl
  have _ := hl
  unfold attB
  rw [hr, List.getD_eq_getElem?_getD, List.getD_eq_getElem?_getD, h k (Nat.le_refl _)]
theorem attL_congr {es fs : List Int} (hl : es.length = fs.length) : ∀ n : Nat, (∀ i, i < n → es[i]? = fs[i]?) → attL es n = attL fs n
  | 0, _ => rfl
  | n + 1, h => by
    have ih := attL_congr hl n (fun i hi => h i (by omega))
    have hb := attB_congr (k := n) hl (fun i hi => h i (by omega))
    cases hat : attB fs n with
    | true => rw [attL_yes hat, attL_yes (hb.trans hat), ih]
    | false => rw [attL_no hat, attL_no (hb.trans hat), ih]
theorem attL_split (es : List Int) (n : Nat) : ∀ d : Nat, ∃ R : List Int, attL es (n + d) = attL es n ++ R ∧ ∀ x ∈ R, (n : Int) ≤ x
  | 0 => ⟨[], by simp, by simp⟩
  | d + 1 => by
    obtain ⟨R, h1, h2⟩ := attL_split es n d
    cases hat : attB es (n + d) with
    | true =>
      refine ⟨R ++ [((n + d : Nat) : Int)], by rw [show n + (d + 1) = n + d + 1 from rfl, attL_yes hat, h1, List.append_assoc], fun x hx => ?_⟩
      rcases List.mem_append.1 hx with h | h
      · exact h2 x h
      · rw [List.mem_singleton] at h; omega
    | false => exact ⟨R, by rw [show n + (d + 1) = n + d + 1 from rfl, attL_no hat, h1], h2⟩
theorem attL_lt (es : List Int) (n : Nat) : ∀ x ∈ attL es n, 0 ≤ x ∧ x < (n : Int) := by
  intro x hx
  unfold attL at hx
  rw [List.mem_map] at hx
  obtain ⟨k, hk, rfl⟩ := hx
  rw [List.mem_filter, List.mem_range] at hk
  omega
/-- how many of the first k are at most p -/
def cntL (xs : List Int) (p : Int) (k : Nat) : Nat := ((xs.take k).filter fun x => decide (x ≤ p)).length
theorem cntL_zero (xs : List Int) (p : Int) : cntL xs p 0 = 0 := by simp [cntL]
theorem cntL_yes {xs : List Int} {p x : Int} {k : Nat} (h : xs[k]? = some x) (hx : x ≤ p) : cntL xs p (k + 1) = cntL xs p k + 1 := by
  unfold cntL; rw [List.take_add_one, h, List.filter_append]; simp [hx]
theorem cntL_no {xs : List Int} {p x : Int} {k : Nat} (h : xs[k]? = some x) (hx : ¬ x ≤ p) : cntL xs p (k + 1) = cntL xs p k := by
  unfold cntL; rw [List.take_add_one, h, List.filter_append]; simp [hx]
theorem cntL_le (xs : List Int) (p : Int) (k : Nat) : cntL xs p k ≤ k := by
  unfold cntL
  have := List.length_filter_le (fun x => decide (x ≤ p)) (xs.take k)
  have := List.length_take_le k xs
  omega
theorem cntL_att {es : List Int} {n p : Nat} (hp : p < n) : cntL (attL es n) p (attL es n).length = (attL es (p + 1)).length ∧ (attL es n).take (attL es (p + 1)).length = attL es (p + 1) := by
  obtain ⟨R, h1, h2⟩ := attL_split es (p + 1) (n - (p + 1))
  rw [show p + 1 + (n - (p + 1)) = n by omega] at h1
  have ha : ∀ x ∈ attL es (p + 1), decide (x ≤ (p : Int)) = true := fun x hx => decide_eq_true (by have := attL_lt es (p + 1) x hx; omega)
  have hb : ∀ x ∈ R, ¬ (decide (x ≤ (p : Int)) = true) := fun x hx => by have := h2 x hx; rw [decide_eq_true_iff]; omega
  unfold cntL
  rw [List.take_length, h1, List.filter_append, List.filter_eq_self.2 ha, List.filter_eq_nil_iff.2 hb, List.append_nil]
  exact ⟨rfl, by simp⟩
theorem same_en {v : Int} {n k : Nat} (hk : 16 * k + 16 ≤ n) (h0 : 0 < k) : en (List.replicate n v) k = 0 := by
  have hg : ∀ i, i < n → (List.replicate n v).getD i 0 = v := fun i hi => by rw [List.getD_eq_getElem?_getD, List.getElem?_replicate, if_pos hi]; rfl
  have hd : ∀ j, j < 16 → difI (List.replicate n v) (16 * k + j) = 0 := fun j hj => by
    unfold difI prevI
    rw [if_neg (by omega), hg _ (by omega), hg _ (by omega)]; omega
  have ht : ∀ j, j ≤ 16 → enT (List.replicate n v) k j = 0 := by
    intro j
    induction j with
    | zero => intro _; rfl
    | succ j ih =>
      intro hj
      show enT _ k j + difI _ (16 * k + j) * difI _ (16 * k + j) = 0
      rw [ih (by omega), hd _ (by omega)]; rfl
  exact ht 16 (Nat.le_refl _)
theorem same_att {v : Int} {n : Nat} (h1 : n % 128 = 0) (h2 : n ≤ 8192) (hv : -65536 ≤ v ∧ v ≤ 65536) :
    ckE (List.replicate n v) = 0 ∧ (atS (List.replicate n v) = [] ∨ atS (List.replicate n v) = [0]) := by
  have hall : allIn (-65536) 65536 (List.replicate n v) = true := allIn_of fun k x hx => by
    have := List.mem_of_getElem? hx
    rw [List.mem_replicate] at this
    obtain ⟨_, rfl⟩ := this
    exact hv
  have hc : ckE (List.replicate n v) = 0 := ckE_of (by simpa using h1) (by simpa using h2) hall
  refine ⟨hc, ?_⟩
  have ho := ens_ok hc
  have hel : (ens (List.replicate n v)).length = n / 16 := by rw [ens_length, List.length_replicate]
  rw [show atS (List.replicate n v) = attL (ens (List.replicate n v)) (ens (List.replicate n v)).length from if_pos hc, hel]
  have hno : ∀ k, 0 < k → k < n / 16 → attB (ens (List.replicate n v)) k = false := fun k h0 hk => by
    have hg : (ens (List.replicate n v)).getD k 0 = 0 := by
      rw [List.getD_eq_getElem?_getD, ens_getD (by rw [List.length_replicate]; exact hk), same_en (by omega) h0]; rfl
    unfold attB
    rw [hg]
    have := (rcn_bd ho (j := k) (rcn (ens (List.replicate n v)) k).length).1
    rw [List.take_length] at this
    exact decide_eq_false (by omega)
  have key : ∀ m, m ≤ n / 16 → attL (ens (List.replicate n v)) m = [] ∨ attL (ens (List.replicate n v)) m = [0] := by
    intro m
    induction m with
    | zero => intro _; exact .inl rfl
    | succ m ih =>
      intro hm
      by_cases h0 : m = 0
      · subst h0
        cases hat : attB (ens (List.replicate n v)) 0 with
        | true => exact .inr (by rw [attL_yes hat]; rfl)
        | false => exact .inl (by rw [attL_no hat]; rfl)
      · rw [attL_no (hno m (by omega) (by omega))]; exact ih (by omega)
  exact key _ (Nat.le_refl _)
/-- the samples behind a part are others -/
def mixQ (xs : List Int) (v : Int) (n c : Nat) : List Int := xs.take c ++ List.replicate (n - c) v
theorem mixQ_length {xs : List Int} {v : Int} {n c : Nat} (h : xs.length = n) (hc : c ≤ n) : (mixQ xs v n c).length = n := by simp [mixQ]; omega
theorem mixQ_att {xs : List Int} {v : Int} {n p : Nat} (hl : xs.length = n) (h1 : n % 128 = 0) (h2 : n ≤ 8192) (h3 : allIn (-65536) 65536 xs = true) (hv : -65536 ≤ v ∧ v ≤ 65536) (hp : p < n / 16) :
    ckE xs = 0 ∧ ckE (mixQ xs v n (16 * p + 16)) = 0 ∧ ∃ m, cntL (atS xs) p (atS xs).length = m ∧ cntL (atS (mixQ xs v n (16 * p + 16))) p (atS (mixQ xs v n (16 * p + 16))).length = m ∧
      (atS xs).take m = (atS (mixQ xs v n (16 * p + 16))).take m ∧ m ≤ (atS xs).length ∧ m ≤ (atS (mixQ xs v n (16 * p + 16))).length := by
  have hc1 : ckE xs = 0 := ckE_of (by omega) (by omega) h3
  have hml := mixQ_length (v := v) (c := 16 * p + 16) hl (by omega)
  have hget : ∀ i, i < 16 * p + 16 → (mixQ xs v n (16 * p + 16))[i]? = xs[i]? := fun i hi => by
    unfold mixQ
    rw [List.getElem?_append_left (by rw [List.length_take]; omega), List.getElem?_take, if_pos hi]
  have hall : allIn (-65536) 65536 (mixQ xs v n (16 * p + 16)) = true := allIn_of fun k x hx => by
    have hm := List.mem_of_getElem? hx
    unfold mixQ at hm
    rcases List.mem_append.1 hm with h | h
    · obtain ⟨j, hj⟩ := List.getElem?_of_mem (List.mem_of_mem_take h)
      exact allIn_yes h3 hj
    · rw [List.mem_replicate] at h
      obtain ⟨_, rfl⟩ := h
      exact hv
  have hc2 : ckE (mixQ xs v n (16 * p + 16)) = 0 := ckE_of (by omega) (by omega) hall
  refine ⟨hc1, hc2, ?_⟩
  rw [show atS xs = attL (ens xs) (ens xs).length from if_pos hc1, show atS (mixQ xs v n (16 * p + 16)) = attL (ens (mixQ xs v n (16 * p + 16))) (ens (mixQ xs v n (16 * p + 16))).length from if_pos hc2]
  have e1 : (ens xs).length = n / 16 := by rw [ens_length, hl]
  have e2 : (ens (mixQ xs v n (16 * p + 16))).length = n / 16 := by rw [ens_length, hml]
  rw [e1, e2]
  obtain ⟨a1, a2⟩ := cntL_att (es := ens xs) (n := n / 16) (p := p) hp
  obtain ⟨b1, b2⟩ := cntL_att (es := ens (mixQ xs v n (16 * p + 16))) (n := n / 16) (p := p) hp
  have hcg : attL (ens xs) (p + 1) = attL (ens (mixQ xs v n (16 * p + 16))) (p + 1) := attL_congr (by rw [e1, e2]) (p + 1) fun i hi => by
    rw [ens_getD (by omega), ens_getD (by omega)]
    congr 1
    exact en_congr fun j hj => by rw [List.getD_eq_getElem?_getD, List.getD_eq_getElem?_getD, hget j (by omega)]
  have l1 : ((attL (ens xs) (n / 16)).take (attL (ens xs) (p + 1)).length).length = (attL (ens xs) (p + 1)).length := by rw [a2]
  have l2 : ((attL (ens (mixQ xs v n (16 * p + 16))) (n / 16)).take (attL (ens (mixQ xs v n (16 * p + 16))) (p + 1)).length).length = (attL (ens (mixQ xs v n (16 * p + 16))) (p + 1)).length := by rw [b2]
  rw [List.length_take] at l1 l2
  rw [← hcg] at b1 b2 l2
  exact ⟨_, a1, b1, by rw [a2, b2], by omega, by omega⟩
end Go.Proofs.Ytmkbpocibpjjaaa
