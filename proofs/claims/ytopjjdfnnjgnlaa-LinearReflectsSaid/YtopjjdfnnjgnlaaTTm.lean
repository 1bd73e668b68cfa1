/- linear: for the law Constant -/
import Derived.Test.YtopjjdfnnjgnlaaTSm
namespace Go.Proofs.Ytopjjdfnnjgnlaa
open Go.RowKit Go.Shelf

theorem flG_in : ∀ (n : Nat) (u v : List Int), inM 127 (flG n u v) = true
  | 0, _, _ => rfl
  | n + 1, u, v => inM_all fun x hx => by
    rw [flG_succ, List.mem_cons] at hx
    rcases hx with rfl | hx
    · exact rfl1_in _ _
    · exact inM_yes (flG_in n _ _) x hx
theorem getD_all {l : List Int} (h : ∀ x ∈ l, x = 0) (j : Nat) : l.getD j 0 = 0 := by
  rw [List.getD_eq_getElem?_getD]
  cases e : l[j]? with
  | none => rfl
  | some x => exact h x (List.mem_of_getElem? e)
theorem rfV_z {u v : List Int} (h : ∀ j, v.getD j 0 = 0) : ∀ j, (rfV u v 0).getD j 0 = 0 := getD_all fun x hx => by
  unfold rfV at hx
  obtain ⟨i, _, rfl⟩ := List.mem_map.1 hx
  rw [h i, Int.zero_mul, show rnd 0 128 = 0 by decide]
  rfl
theorem flG_z : ∀ (n : Nat) (u v : List Int), (∀ j, v.getD j 0 = 0) → flG n u v = List.replicate n 0
  | 0, _, _, _ => rfl
  | n + 1, u, v, h => by
    have e : rfl1 (u.getD 0 0) (v.getD 0 0) = 0 := by rw [h 0]; unfold rfl1; rw [if_pos (Int.le_refl 0)]
    rw [flG_succ, e, flG_z n _ _ (rfV_z h)]
    rfl
theorem likL_z {z : List Int} (hz : ∀ x ∈ z, x = 0) (o : Nat) : ∀ x ∈ likL z o, x = 0 := fun x hx => by
  unfold likL at hx
  obtain ⟨i, _, rfl⟩ := List.mem_map.1 hx
  rw [dotL_zero z (z.drop (min i z.length)) hz, Int.zero_ediv]
theorem rf_ok {x : List Int} {n : Nat} (hn : n ≤ 12) : rfE x (n : Int) = ckE 2097152 x ∧ (ckE 2097152 x = 0 → rfS x (n : Int) = flG n ((likL x n).drop 1) ((likL x n).take n)) := by
  have e1 : rfE x (n : Int) = ckE 2097152 x := if_neg (by omega)
  refine ⟨e1, fun h => ?_⟩
  have e : rfS x (n : Int) = flG (n : Int).toNat ((likL x (n : Int).toNat).drop 1) ((likL x (n : Int).toNat).take (n : Int).toNat) := if_pos (by rw [e1, h])
  rw [e, Int.toNat_natCast]
theorem rep_in {L : Nat} {v m : Int} (h : -m ≤ v ∧ v ≤ m) : inM m (List.replicate L v) = true := inM_all fun x hx => by rw [(List.mem_replicate.1 hx).2]; exact h
theorem rf_zeros {L n : Nat} (hL : L ≤ 8192) (hn : n ≤ 12) : rfE (List.replicate L 0) (n : Int) = 0 ∧ rfS (List.replicate L 0) (n : Int) = List.replicate n 0 := by
  have hc : ckE 2097152 (List.replicate L 0) = 0 := ckE_of (by rw [List.length_replicate]; exact hL) (rep_in (by decide))
  obtain ⟨h1, h2⟩ := rf_ok (x := List.replicate L 0) hn
  refine ⟨by rw [h1, hc], ?_⟩
  rw [h2 hc]
  exact flG_z n _ _ (getD_all fun x hx => likL_z (fun y hy => (List.mem_replicate.1 hy).2) n x (List.mem_of_mem_take hx))
theorem div_sign {s : Int} (e : Nat) : (s ≤ 0 → s / 2 ^ e ≤ 0) ∧ (0 ≤ s → 0 ≤ s / 2 ^ e) := by
  have h0 : (0 : Int) < 2 ^ e := by
    have := Nat.two_pow_pos e
    have e' : ((2 : Int) ^ e) = ((2 ^ e : Nat) : Int) := by simp
    omega
  refine ⟨fun h => ?_, fun h => Int.ediv_nonneg h (by omega)⟩
  have : s / 2 ^ e < 1 := Int.ediv_lt_of_lt_mul h0 (by omega)
  omega
theorem rf_head {x : List Int} {n : Nat} (hn : n ≤ 12) (h0 : 0 < n) (h : ckE 2097152 x = 0) : ∃ k0, (rfS x (n : Int))[0]? = some k0 ∧ (k0 < 0 → 0 < dotL x (x.drop 1)) ∧ (0 < k0 → dotL x (x.drop 1) ≤ 0) := by
  obtain ⟨m, rfl⟩ : ∃ m, n = m + 1 := ⟨n - 1, by omega⟩
  rw [(rf_ok hn).2 h, flG_succ]
  refine ⟨_, rfl, ?_⟩
  have e : ((likL x (m + 1)).drop 1).getD 0 0 = dotL x (x.drop 1) / 2 ^ (exS (dotL x x)) := by
    have := likL_get (x := x) (o := m + 1) (j := 1) (by omega)
    rw [List.getD_eq_getElem?_getD] at this
    rw [List.getD_eq_getElem?_getD, List.getElem?_drop, this]
    cases x with
    | nil => rfl
    | cons a l => rw [show min 1 (a :: l).length = 1 by simp]
  rw [e]
  obtain ⟨s1, s2⟩ := rfl1_sign (dotL x (x.drop 1) / 2 ^ (exS (dotL x x))) (((likL x (m + 1)).take (m + 1)).getD 0 0)
  obtain ⟨d1, d2⟩ := div_sign (s := dotL x (x.drop 1)) (exS (dotL x x))
  generalize rfl1 (dotL x (x.drop 1) / 2 ^ (exS (dotL x x))) (((likL x (m + 1)).take (m + 1)).getD 0 0) = K at *
  generalize dotL x (x.drop 1) / 2 ^ (exS (dotL x x)) = Q at *
  generalize dotL x (x.drop 1) = S at *
  constructor
  · intro hk
    by_cases hs : S ≤ 0
    · have := s2 (d1 hs); omega
    · omega
  · intro hk
    by_cases hs : 0 ≤ S
    · have := s1 (d2 hs); omega
    · omega
theorem rf_facts {x : List Int} {n : Nat} (hn : n ≤ 12) (h : ckE 2097152 x = 0) : (rfS x (n : Int)).length = n ∧ inM 127 (rfS x (n : Int)) = true := by
  rw [(rf_ok hn).2 h]
  exact ⟨flG_len _ _ _, flG_in _ _ _⟩
theorem const_dif {L : Nat} {v : Int} (hL : L ≤ 8192) (hv : -2097152 ≤ v ∧ v ≤ 2097152) : diE (List.replicate L v) 1 = 0 ∧ (diS (List.replicate L v) 1).length = L ∧ ∀ j, j < L → (diS (List.replicate L v) 1)[j]? = some (if j = 0 then v else 0) := by
  have hc : diE (List.replicate L v) 1 = 0 := by
    unfold diE
    rw [if_neg (by omega)]
    exact ckE_of (by rw [List.length_replicate]; exact hL) (rep_in hv)
  have hS : diS (List.replicate L v) 1 = difG 0 (List.replicate L v) := if_pos hc
  have hl : (difG 0 (List.replicate L v)).length = L := by rw [difG_len, List.length_replicate]
  rw [hS]
  refine ⟨hc, hl, fun j hj => ?_⟩
  have hg : ∀ i, i < L → (List.replicate L v).getD i 0 = v := fun i hi => by rw [List.getD_eq_getElem?_getD, List.getElem?_replicate, if_pos hi]; rfl
  rw [getD_of (by rw [hl]; exact hj), difG_get _ _ _ (by rw [List.length_replicate]; exact hj), hg j hj]
  by_cases e : j = 0
  · rw [if_pos e, if_pos e, Int.sub_zero]
  · rw [if_neg e, if_neg e, hg (j - 1) (by omega), Int.sub_self]
/-- the first k elements are v -/
def FstV (v : Int) (L k : Nat) (ys : List Int) : Prop := ys.length = L ∧ ∀ j, j < k → ys.getD j 0 = v
theorem FstV.set {v : Int} {L k : Nat} {ys : List Int} (h : FstV v L k ys) (hk : k < L) : FstV v L (k + 1) (ys.set k v) := by
  refine ⟨by rw [List.length_set]; exact h.1, fun j hj => ?_⟩
  rw [getD_set _ _ _ (by rw [h.1]; exact hk)]
  by_cases e : k = j
  · rw [if_pos e]
  · rw [if_neg e]; exact h.2 j (by omega)
theorem FstV.all {v : Int} {L : Nat} {ys : List Int} (h : FstV v L L ys) : ys = List.replicate L v := by
  refine ext_getD (by rw [h.1, List.length_replicate]) fun j hj => ?_
  have hj : j < L := by rw [← h.1]; exact hj
  rw [h.2 j hj, List.getD_eq_getElem?_getD, List.getElem?_replicate, if_pos hj]
  rfl
end Go.Proofs.Ytopjjdfnnjgnlaa
