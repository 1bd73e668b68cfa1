/- energy: how levels spread, in mathematics; the sums of the parts; tones -/
import Derived.Test.YtgdndcbcdoogpaaDoorOU
namespace Go.Proofs.YtgdndcbcdoogpaaDoor
open Go.RowKit Go.Shelf

/-- by how much a level falls from place k to place b -/
def spD (k b : Nat) : Int := if k ≤ b then 384 * ((b : Int) - k) else 768 * ((k : Int) - b)
theorem spD_nn (k b : Nat) : 0 ≤ spD k b := by unfold spD; split <;> omega
theorem spD_self (b : Nat) : spD b b = 0 := by unfold spD; rw [if_pos (Nat.le_refl _)]; omega
theorem spD_tri (k j b : Nat) : spD k b ≤ spD k j + spD j b := by unfold spD; split <;> split <;> split <;> omega
theorem spD_shift (o k b : Nat) : spD (o + k) (o + b) = spD k b := by unfold spD; split <;> split <;> omega
theorem spStep_at {off f t : Nat} {d : Int} {xs : List Int} (h : off + t < xs.length) (j : Nat) :
    (spStep off xs (f, t, d)).getD j 0 = if j = off + t then max (max 0 (xs.getD j 0)) (xs.getD (off + f) 0 - d) else xs.getD j 0 := by
  unfold spStep
  by_cases e : j = off + t
  · rw [if_pos e]
    subst e
    rw [List.getD_eq_getElem?_getD, List.getElem?_set_self h]
    rfl
  · rw [if_neg e, List.getD_eq_getElem?_getD, List.getElem?_set_ne (fun h => e h.symm), ← List.getD_eq_getElem?_getD]
def upA (off k : Nat) (xs : List Int) : List Int := ((List.range k).map upT).foldl (spStep off) xs
theorem upA_succ (off k : Nat) (xs : List Int) : upA off (k + 1) xs = spStep off (upA off k xs) (upT k) := by
  unfold upA; rw [List.range_succ, List.map_append, List.foldl_append]; rfl
theorem up_pass {off : Nat} {xs : List Int} (hc : ∀ j, 0 ≤ xs.getD j 0) : ∀ k, off + k < xs.length →
    (∀ j, (j < off ∨ off + k < j) → (upA off k xs).getD j 0 = xs.getD j 0) ∧
    ∀ b, b ≤ k → (∀ i, i ≤ b → xs.getD (off + i) 0 - 384 * ((b : Int) - i) ≤ (upA off k xs).getD (off + b) 0) ∧ ∃ i, i ≤ b ∧ (upA off k xs).getD (off + b) 0 = xs.getD (off + i) 0 - 384 * ((b : Int) - i)
  | 0, _ => ⟨fun _ _ => rfl, fun b hb => by
      obtain rfl : b = 0 := by omega
      have e : upA off 0 xs = xs := rfl
      rw [e]
      refine ⟨fun i hi => ?_, 0, Nat.le_refl _, by omega⟩
      obtain rfl : i = 0 := by omega
      omega⟩
  | k + 1, hk => by
    obtain ⟨h1, h2⟩ := up_pass (off := off) hc k (by omega)
    have hl : (upA off k xs).length = xs.length := spF_len _ _ _
    have hs : ∀ j, (upA off (k + 1) xs).getD j 0 = if j = off + (k + 1) then max (max 0 ((upA off k xs).getD j 0)) ((upA off k xs).getD (off + k) 0 - 384) else (upA off k xs).getD j 0 := fun j => by
      rw [upA_succ]; exact spStep_at (off := off) (xs := upA off k xs) (f := k) (t := k + 1) (d := 384) (by rw [hl]; exact hk) j
    refine ⟨fun j hj => ?_, fun b hb => ?_⟩
    · rw [hs, if_neg (by omega)]; exact h1 j (by omega)
    · by_cases e : b = k + 1
      · subst e
        rw [hs, if_pos rfl, h1 (off + (k + 1)) (by omega)]
        obtain ⟨g1, i0, hi0, g2⟩ := h2 k (Nat.le_refl _)
        have hx := hc (off + (k + 1))
        generalize (upA off k xs).getD (off + k) 0 = Y at *
        refine ⟨fun i hi => ?_, ?_⟩
        · by_cases ei : i = k + 1
          · subst ei; omega
          · have := g1 i (by omega); omega
        · by_cases hm : Y - 384 ≤ xs.getD (off + (k + 1)) 0
          · exact ⟨k + 1, Nat.le_refl _, by omega⟩
          · exact ⟨i0, by omega, by omega⟩
      · rw [hs, if_neg (by omega)]; exact h2 b (by omega)
def dnA (off N k : Nat) (ys : List Int) : List Int := ((List.range k).map (dnT N)).foldl (spStep off) ys
theorem dnA_succ (off N k : Nat) (ys : List Int) : dnA off N (k + 1) ys = spStep off (dnA off N k ys) (dnT N k) := by
  unfold dnA; rw [List.range_succ, List.map_append, List.foldl_append]; rfl
theorem dn_pass {off N : Nat} {ys : List Int} (hc : ∀ j, 0 ≤ ys.getD j 0) (hN : off + N < ys.length) : ∀ k, k ≤ N →
    (∀ j, (j < off + (N - k) ∨ off + N ≤ j) → (dnA off N k ys).getD j 0 = ys.getD j 0) ∧
    ∀ b, N - k ≤ b → b ≤ N → (∀ i, b ≤ i → i ≤ N → ys.getD (off + i) 0 - 768 * ((i : Int) - b) ≤ (dnA off N k ys).getD (off + b) 0) ∧ ∃ i, b ≤ i ∧ i ≤ N ∧ (dnA off N k ys).getD (off + b) 0 = ys.getD (off + i) 0 - 768 * ((i : Int) - b)
  | 0, _ => ⟨fun _ _ => rfl, fun b hb hb2 => by
      obtain rfl : b = N := by omega
      have e : dnA off b 0 ys = ys := rfl
      rw [e]
      refine ⟨fun i hi hi2 => ?_, b, Nat.le_refl _, Nat.le_refl _, by omega⟩
      obtain rfl : i = b := by omega
      omega⟩
  | k + 1, hk => by
    obtain ⟨h1, h2⟩ := dn_pass hc hN k (by omega)
    have hl : (dnA off N k ys).length = ys.length := spF_len _ _ _
    have hs : ∀ j, (dnA off N (k + 1) ys).getD j 0 = if j = off + (N - k - 1) then max (max 0 ((dnA off N k ys).getD j 0)) ((dnA off N k ys).getD (off + (N - k)) 0 - 768) else (dnA off N k ys).getD j 0 := fun j => by
      rw [dnA_succ]; exact spStep_at (off := off) (xs := dnA off N k ys) (f := N - k) (t := N - k - 1) (d := 768) (by rw [hl]; omega) j
    refine ⟨fun j hj => ?_, fun b hb hb2 => ?_⟩
    · rw [hs, if_neg (by omega)]; exact h1 j (by omega)
    · by_cases e : b = N - k - 1
      · rw [hs, if_pos (by omega), h1 (off + b) (by omega)]
        obtain ⟨g1, i0, hi0, hi1, g2⟩ := h2 (N - k) (by omega) (by omega)
        have hx := hc (off + b)
        generalize (dnA off N k ys).getD (off + (N - k)) 0 = Y at *
        refine ⟨fun i hi hi2 => ?_, ?_⟩
        · by_cases ei : i = b
          · subst ei; omega
          · have := g1 i (by omega) hi2; omega
        · by_cases hm : Y - 768 ≤ ys.getD (off + b) 0
          · exact ⟨b, Nat.le_refl _, hb2, by omega⟩
          · exact ⟨i0, by omega, hi1, by omega⟩
      · rw [hs, if_neg (by omega)]; exact h2 b (by omega) hb2
theorem getD_cos0 {xs : List Int} (h : CoS xs) (j : Nat) : 0 ≤ xs.getD j 0 := (getD_cos h j).1
theorem spA_row {off N : Nat} {xs : List Int} (hc : CoS xs) (hN : off + N < xs.length) :
    (∀ j, (j < off ∨ off + N < j) → (spA off N xs).getD j 0 = xs.getD j 0) ∧
    ∀ b, b ≤ N → (∀ i, i ≤ N → xs.getD (off + i) 0 - spD i b ≤ (spA off N xs).getD (off + b) 0) ∧ ∃ i, i ≤ N ∧ (spA off N xs).getD (off + b) 0 = xs.getD (off + i) 0 - spD i b := by
  have e : spA off N xs = dnA off N N (upA off N xs) := by unfold spA stL dnA upA; rw [List.foldl_append]
  have hcu : CoS (upA off N xs) := hc.foldl off fun s hs => by
    rw [List.mem_map] at hs
    obtain ⟨k, _, rfl⟩ := hs
    simp [upT]
  have hl : (upA off N xs).length = xs.length := spF_len _ _ _
  obtain ⟨u1, u2⟩ := up_pass (off := off) (getD_cos0 hc) N hN
  obtain ⟨d1, d2⟩ := dn_pass (off := off) (N := N) (getD_cos0 hcu) (by rw [hl]; exact hN) N (Nat.le_refl _)
  rw [e]
  refine ⟨fun j hj => by rw [d1 j (by omega), u1 j hj], fun b hb => ?_⟩
  obtain ⟨p1, i, hi, hiN, p2⟩ := d2 b (by omega) hb
  have hall : ∀ k, k ≤ N → xs.getD (off + k) 0 - spD k b ≤ (dnA off N N (upA off N xs)).getD (off + b) 0 := fun k hk => by
    unfold spD
    by_cases hkb : k ≤ b
    · rw [if_pos hkb]
      have a1 := (u2 b hb).1 k hkb
      have a2 := p1 b (Nat.le_refl _) hb
      omega
    · rw [if_neg hkb]
      have a1 := (u2 k hk).1 k (Nat.le_refl _)
      have a2 := p1 k (by omega) hk
      omega
  refine ⟨hall, ?_⟩
  obtain ⟨_, k, hk, a2⟩ := u2 i hiN
  refine ⟨k, by omega, ?_⟩
  have a3 := hall k (by omega)
  unfold spD at a3 ⊢
  split at a3
  · rename_i hh; rw [if_pos hh]; omega
  · rename_i hh; rw [if_neg hh]; omega
theorem div_row {m k j : Nat} (hm : 1 ≤ m) : j / m = k ↔ m * k ≤ j ∧ j < m * k + m := by
  constructor
  · intro h
    subst h
    have := Nat.div_add_mod j m
    have := Nat.mod_lt j (show 0 < m by omega)
    omega
  · rintro ⟨h1, h2⟩
    refine Nat.div_eq_of_lt_le ?_ ?_
    · rw [Nat.mul_comm]; exact h1
    · rw [Nat.succ_mul, Nat.mul_comm]; exact h2
theorem sdK_at {m : Nat} {xs : List Int} (hm : 1 ≤ m) (hc : CoS xs) : ∀ k, m * k ≤ xs.length →
    (∀ j, m * k ≤ j → (sdK m k xs).getD j 0 = xs.getD j 0) ∧
    ∀ b, b < m * k → (∀ j, j / m = b / m → xs.getD j 0 - spD j b ≤ (sdK m k xs).getD b 0) ∧ ∃ j, j / m = b / m ∧ (sdK m k xs).getD b 0 = xs.getD j 0 - spD j b
  | 0, _ => ⟨fun _ _ => rfl, fun b hb => by rw [Nat.mul_zero] at hb; omega⟩
  | k + 1, hk => by
    have hmk : m * (k + 1) = m * k + m := Nat.mul_succ m k
    rw [hmk] at hk ⊢
    obtain ⟨h1, h2⟩ := sdK_at hm hc k (by omega)
    have hl := sdK_len m k xs
    obtain ⟨r1, r2⟩ := spA_row (off := m * k) (N := m - 1) (hc.sdK m k) (by rw [hl]; omega)
    have e : sdK m (k + 1) xs = spA (m * k) (m - 1) (sdK m k xs) := rfl
    rw [e]
    refine ⟨fun j hj => by rw [r1 j (by omega)]; exact h1 j (by omega), fun b hb => ?_⟩
    by_cases hbk : b < m * k
    · rw [r1 b (by omega)]; exact h2 b hbk
    · obtain ⟨b', rfl⟩ : ∃ b', b = m * k + b' := ⟨b - m * k, by omega⟩
      obtain ⟨q1, i, hi, q2⟩ := r2 b' (by omega)
      have hbd : (m * k + b') / m = k := (div_row hm).2 (by omega)
      rw [hbd]
      refine ⟨fun j hj => ?_, m * k + i, (div_row hm).2 (by omega), ?_⟩
      · obtain ⟨j1, j2⟩ := (div_row hm).1 hj
        obtain ⟨j', rfl⟩ : ∃ j', j = m * k + j' := ⟨j - m * k, by omega⟩
        rw [spD_shift, ← h1 (m * k + j') (by omega)]
        exact q1 j' (by omega)
      · rw [spD_shift, ← h1 (m * k + i) (by omega)]
        exact q2
/-- What is known of levels that were spread. -/
theorem sd_at {xs : List Int} {n : Int} (h : sdE xs n = 0) : ∃ m : Nat, n = (m : Int) ∧ 1 ≤ m ∧ m ≤ 15 ∧ xs.length ≤ 32 ∧ xs.length % m = 0 ∧ CoS xs ∧ (sdS xs n).length = xs.length ∧ CoS (sdS xs n) ∧
    ∀ b, b < xs.length → (∀ j, j / m = b / m → xs.getD j 0 - spD j b ≤ (sdS xs n).getD b 0) ∧ ∃ j, j / m = b / m ∧ (sdS xs n).getD b 0 = xs.getD j 0 - spD j b := by
  have hS : sdS xs n = sdK n.toNat (xs.length / n.toNat) xs := if_pos h
  unfold sdE at h
  by_cases h1 : n < 1 ∨ 15 < n
  · rw [if_pos h1] at h; cases h
  rw [if_neg h1] at h
  by_cases h2 : 32 < xs.length
  · rw [if_pos h2] at h; cases h
  rw [if_neg h2] at h
  by_cases h3 : xs.length % n.toNat = 0
  · rw [if_pos h3] at h
    cases h4 : inB 0 15872 xs with
    | false => rw [h4] at h; simp at h
    | true =>
      have hc := coS_of h4
      obtain ⟨m, rfl⟩ : ∃ m : Nat, n = (m : Int) := ⟨n.toNat, by omega⟩
      rw [Int.toNat_natCast] at hS h3
      have hM : m * (xs.length / m) = xs.length := by have := Nat.div_add_mod xs.length m; omega
      refine ⟨m, rfl, by omega, by omega, by omega, h3, hc, by rw [hS, sdK_len], by rw [hS]; exact hc.sdK _ _, fun b hb => ?_⟩
      rw [hS]
      exact (sdK_at (by omega) hc (xs.length / m) (by omega)).2 b (by omega)
  · rw [if_neg h3] at h; cases h
theorem sdE_of {xs : List Int} {m : Nat} (h1 : 1 ≤ m) (h2 : m ≤ 15) (h3 : xs.length ≤ 32) (h4 : xs.length % m = 0) (h5 : CoS xs) : sdE xs (m : Int) = 0 := by
  unfold sdE
  rw [if_neg (by omega), if_neg (by omega), Int.toNat_natCast, if_pos h4, inB_all h5]
  rfl
theorem sd_ge {xs : List Int} {n : Int} (h : sdE xs n = 0) {b : Nat} (hb : b < xs.length) : xs.getD b 0 ≤ (sdS xs n).getD b 0 := by
  obtain ⟨m, _, _, _, _, _, _, _, _, hA⟩ := sd_at h
  have := (hA b hb).1 b rfl
  rw [spD_self] at this
  omega
theorem ext_getD {xs ys : List Int} (hl : xs.length = ys.length) (h : ∀ b, b < xs.length → xs.getD b 0 = ys.getD b 0) : xs = ys := by
  refine List.ext_getElem hl fun b h1 h2 => ?_
  have := h b h1
  rw [List.getD_eq_getElem?_getD, List.getD_eq_getElem?_getD, List.getElem?_eq_getElem h1, List.getElem?_eq_getElem h2] at this
  exact this
theorem row_lt {m L j b : Nat} (hm : 1 ≤ m) (hL : L % m = 0) (hb : b < L) (h : j / m = b / m) : j < L := by
  obtain ⟨h1, h2⟩ := (div_row hm).1 h
  have h3 : m * (L / m) = L := by have := Nat.div_add_mod L m; omega
  have h4 : b / m < L / m := by
    refine Nat.div_lt_of_lt_mul ?_
    omega
  have h5 : m * (b / m + 1) ≤ m * (L / m) := Nat.mul_le_mul_left m h4
  rw [Nat.mul_succ] at h5
  omega
theorem sd_idem {xs : List Int} {n : Int} (h : sdE xs n = 0) : sdE (sdS xs n) n = 0 ∧ sdS (sdS xs n) n = sdS xs n := by
  obtain ⟨m, rfl, h1, h2, h3, h4, h5, h6, h7, hA⟩ := sd_at h
  have hE : sdE (sdS xs (m : Int)) (m : Int) = 0 := sdE_of h1 h2 (by omega) (by rw [h6]; exact h4) h7
  refine ⟨hE, ?_⟩
  obtain ⟨m', e, _, _, _, _, _, g6, _, hB⟩ := sd_at hE
  obtain rfl : m' = m := by omega
  refine (ext_getD g6.symm fun b hb => ?_).symm
  obtain ⟨p1, j, hj, p2⟩ := hB b hb
  have hb' : b < xs.length := by omega
  have hjl := row_lt h1 h4 hb' hj
  obtain ⟨_, k, hk, q2⟩ := hA j hjl
  have a1 := (hA b hb').1 k (by rw [hk, hj])
  have a2 := sd_ge hE hb
  have a3 := spD_tri k j b
  omega
theorem sd_up {xs ys : List Int} {n : Int} (h : sdE xs n = 0) (hl : ys.length = xs.length) (hc : CoS ys) (hle : ∀ b, b < xs.length → xs.getD b 0 ≤ ys.getD b 0) :
    sdE ys n = 0 ∧ ∀ b, b < xs.length → (sdS xs n).getD b 0 ≤ (sdS ys n).getD b 0 := by
  obtain ⟨m, rfl, h1, h2, h3, h4, h5, h6, h7, hA⟩ := sd_at h
  have hE : sdE ys (m : Int) = 0 := sdE_of h1 h2 (by omega) (by rw [hl]; exact h4) hc
  refine ⟨hE, fun b hb => ?_⟩
  obtain ⟨m', e, _, _, _, _, _, _, _, hB⟩ := sd_at hE
  obtain rfl : m' = m := by omega
  obtain ⟨_, j, hj, p2⟩ := hA b hb
  have a1 := (hB b (by omega)).1 j hj
  have a2 := hle j (row_lt h1 h4 hb hj)
  omega

theorem psum {f : Int → Int} {l1 l2 : List Int} (h : l1.Perm l2) : (l1.map f).sum = (l2.map f).sum := by
  induction h with
  | nil => rfl
  | cons x _ ih => simp only [List.map_cons, List.sum_cons, ih]
  | swap x y l => simp only [List.map_cons, List.sum_cons]; omega
  | trans _ _ i1 i2 => exact i1.trans i2
theorem plI_range {s : Bool} {gs : List Int} (h : isD s gs = true) : (plI s gs).Perm ((List.range 128).map fun (i : Nat) => (i : Int)) := by
  obtain ⟨_, h2, h3, h4⟩ := plI_perm h
  refine (List.perm_ext_iff_of_nodup h2 ?_).2 fun a => ⟨fun ha => ?_, fun ha => ?_⟩
  · decide +kernel
  · obtain ⟨a1, a2⟩ := h3 a ha
    rw [List.mem_map]
    exact ⟨a.toNat, List.mem_range.2 (by omega), by omega⟩
  · rw [List.mem_map] at ha
    obtain ⟨i, hi, rfl⟩ := ha
    exact h4 i (List.mem_range.1 hi)
theorem list_range {c : List Int} : c = (List.range c.length).map fun i => c.getD i 0 := by
  refine ext_getD (by simp) fun b hb => ?_
  rw [List.getD_eq_getElem?_getD (l := List.map _ _), List.getElem?_map, List.getElem?_range hb]
  rfl
theorem sqs_append (a b : List Int) : sqs (a ++ b) = sqs a + sqs b := by unfold sqs; rw [List.map_append, List.sum_append]
theorem sqs_ga {s : Bool} {gs c : List Int} (hd : isD s gs = true) (hl : c.length = 128) : sqs (gaL (plI s gs) c) = sqs c := by
  have e1 : sqs (gaL (plI s gs) c) = ((plI s gs).map fun p => c.getD p.toNat 0 * c.getD p.toNat 0).sum := by unfold sqs gaL; rw [List.map_map]; rfl
  have e2 : sqs c = (((List.range 128).map fun (i : Nat) => (i : Int)).map fun p => c.getD p.toNat 0 * c.getD p.toNat 0).sum := by
    have := @list_range c
    rw [hl] at this
    conv => lhs; rw [this]
    unfold sqs
    rw [List.map_map, List.map_map]
    rfl
  rw [e1, e2]
  exact psum (plI_range hd)
theorem sum_parts {ws l : List Int} (hm : ∀ x ∈ ws, 0 ≤ x) : ∀ K, K ≤ ws.length → ((List.range K).map fun k => sqs (ptA ws l k)).sum = sqs (l.take (spT ws K).toNat)
  | 0, _ => rfl
  | K + 1, hK => by
    obtain ⟨x, hx⟩ : ∃ x, ws[K]? = some x := ⟨_, List.getElem?_eq_getElem (by omega)⟩
    have hx0 := hm x (List.mem_of_getElem? hx)
    have h0 := spT_nn hm K
    have hg : ws.getD K 0 = x := by rw [List.getD_eq_getElem?_getD, hx]; rfl
    rw [List.range_succ, List.map_append, List.sum_append, sum_parts hm K (by omega), spT_succ hx,
      show (spT ws K + x).toNat = (spT ws K).toNat + x.toNat by omega, List.take_add, sqs_append]
    unfold ptA
    rw [List.map_singleton, List.sum_singleton, hg]
theorem cut_sum {c : List Int} {s : Bool} {gs : List Int} (h : spE c s gs = 0) : ((cutL c s gs).map sqs).sum = sqs c := by
  obtain ⟨hd, hn, _⟩ := spE_ok h
  obtain ⟨b1, b2⟩ := bands_one hd
  have hm : ∀ x ∈ bandsL s gs, 0 ≤ x := fun x hx => by have := b1 x hx; omega
  have hl : (gaL (plI s gs) c).length = 128 := by unfold gaL; rw [List.length_map]; exact (plI_perm hd).1
  unfold cutL ptL
  rw [List.map_map]
  have e := sum_parts (l := gaL (plI s gs) c) hm (bandsL s gs).length (Nat.le_refl _)
  refine Eq.trans e ?_
  rw [ctN_bands, b2, show ((128 : Int)).toNat = 128 from rfl, List.take_of_length_le (by omega), sqs_ga hd hn]
theorem bk_sum {c : List Int} (h : c.length = 128) : ((bkL c).map sqs).sum = sqs c := by
  have e : ∀ K, ((List.range K).map fun k => sqs ((c.drop (16 * k)).take 16)).sum = sqs (c.take (16 * K)) := by
    intro K
    induction K with
    | zero => rfl
    | succ K ih => rw [List.range_succ, List.map_append, List.sum_append, ih, Nat.mul_succ, List.take_add, sqs_append, List.map_singleton, List.sum_singleton]
  unfold bkL
  rw [List.map_map]
  refine Eq.trans (e 8) ?_
  rw [List.take_of_length_le (by omega)]

theorem tn_bd (xs : List Int) : 0 ≤ tnV xs ∧ tnV xs ≤ 255 := by unfold tnV; omega
theorem tn_same {xs : List Int} {q : Int} (h : ∀ x ∈ xs, x * x = q) (h0 : 0 < xs.length) : tnV xs = 0 := by
  have hs : ∀ l : List Int, (∀ x ∈ l, x * x = q) → sqs l = q * l.length ∧ lvs l = lv q * l.length := by
    intro l hl
    induction l with
    | nil => exact ⟨by unfold sqs; simp, by unfold lvs; simp⟩
    | cons x l ih =>
      obtain ⟨i1, i2⟩ := ih fun y hy => hl y (List.mem_cons_of_mem _ hy)
      have hx := hl x List.mem_cons_self
      have e1 : sqs (x :: l) = x * x + sqs l := by unfold sqs; rw [List.map_cons, List.sum_cons]
      have e2 : lvs (x :: l) = lv (x * x) + lvs l := by unfold lvs; rw [List.map_cons, List.sum_cons]
      rw [e1, e2, i1, i2, hx, List.length_cons, Int.natCast_add, Int.mul_add, Int.mul_add]
      refine ⟨?_, ?_⟩ <;> omega
  obtain ⟨e1, e2⟩ := hs xs h
  have hn : (xs.length : Int) ≠ 0 := by omega
  unfold tnV tnD
  rw [e1, e2, Int.mul_tdiv_cancel _ hn, Int.mul_tdiv_cancel _ hn, Int.sub_self]
  decide
theorem cut_mem {P : Int → Prop} {c : List Int} {s : Bool} {gs : List Int} (hd : isD s gs = true) (hn : c.length = 128) (h : ∀ x ∈ c, P x) {k : Nat} {xs : List Int} (hk : (cutL c s gs)[k]? = some xs) : ∀ x ∈ xs, P x := by
  have hkl := (List.getElem?_eq_some_iff.1 hk).1
  unfold cutL at hk hkl
  rw [ptL_len] at hkl
  rw [ptL_get hkl] at hk
  injection hk with hk
  subst hk
  refine coB_sub fun x hx => ?_
  unfold gaL at hx
  rw [List.mem_map] at hx
  obtain ⟨p, hp, rfl⟩ := hx
  obtain ⟨p0, p1⟩ := (plI_perm hd).2.2.1 p hp
  rw [List.getD_eq_getElem?_getD, List.getElem?_eq_getElem (by omega)]
  exact h _ (List.getElem_mem _)
end Go.Proofs.YtgdndcbcdoogpaaDoor
