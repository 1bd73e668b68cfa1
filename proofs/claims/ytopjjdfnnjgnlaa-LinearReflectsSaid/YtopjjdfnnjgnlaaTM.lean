/- linear: reflection, its rows -/
import Derived.Test.YtopjjdfnnjgnlaaTL
import Derived.Deep.AppendLies
import Derived.Maps.AppendAt
import Derived.Lib.MinMax
import Derived.WalkMore
namespace Go.Proofs.Ytopjjdfnnjgnlaa
open Go.RowKit Go.Shelf

theorem wpList_pushF {w : World} {ops : Array Oper} {rest : List Oper} {o : Oper} {a : Act} {Q : Exit → Act → World → Prop} (hgd : o.guard = none) (s x : Operand)
    (ho : o.op = .call { callee := .builtin .append, args := #[s, x], argTypes := #[22, 22] }) (B : Nat) (v : Value) (n : Nat) (xs : List Int) (y : Int) (hs : a.eval s = v) (hx : a.eval x = .slice (some ⟨w.heap.size, 0, none⟩) 1 1)
    (hown : w.ownsRow B 3 1 v n (i64s xs)) (hn : n ≤ 1000000) (hB : B ≤ w.heap.size)
    (hK : ∀ v' w', w'.ownsRow B 3 1 v' (n + 1) (i64s (xs ++ [y])) → Upd (fun k => v.ownBlock = some k) w w' → (v'.ownBlock = v.ownBlock ∨ ∃ k, v'.ownBlock = some k ∧ w.heap.size ≤ k) → wpList Try.prog ops Q rest (a.put o.dst v') w') : wpList Try.prog ops Q (o :: rest) a (w.alloc (.cells #[.int .i64 y] 3)) := by
  obtain ⟨i0, hi, hz0, hz1, hz2⟩ := info_parts Try.infoInt
  have u : Upd NoB w (w.alloc (.cells #[.int .i64 y] 3)) := (Upd.refl _ _).alloc _
  refine wpList_append_own_at (w := w.alloc (.cells #[.int .i64 y] 3)) hgd s x 22 ho B 3 i0 (.int .i64 0) 1 8 Try.underlying22 hi hz0 hz1 hz2 rfl (by decide) v n (i64s xs) hs (u.row hown (fun k _ => noB k)) ⟨w.heap.size, 0, none⟩ 1 1 [.int .i64 y] hx rfl (World.news_of_block (heap_alloc_new w _)) (by intro u hu; rw [List.mem_singleton] at hu; subst hu; rfl) (by unfold maxLen; omega) (by omega) (Nat.le_trans hB u.size) ?_
  intro v' w' hown' hgr _ hat
  refine hK v' w' (by rw [i64s_append]; exact hown') ?_ ?_
  · exact ((u.mono (T := fun k => v.ownBlock = some k) (fun _ _ h => h.elim))).grown hgr (fun k hk _ => hk)
  · rcases hat with h | h
    · exact .inl h
    · exact .inr ⟨_, h, u.size⟩
def rfl1 (u v : Int) : Int := if v ≤ 0 then 0 else min (max (rnd (-128 * u) v) (-127)) 127
theorem rfl1_in (u v : Int) : -127 ≤ rfl1 u v ∧ rfl1 u v ≤ 127 := by unfold rfl1; split <;> omega
theorem rfl1_sign (u v : Int) : (0 ≤ u → rfl1 u v ≤ 0) ∧ (u ≤ 0 → 0 ≤ rfl1 u v) := by
  unfold rfl1
  split
  · exact ⟨fun _ => Int.le_refl _, fun _ => Int.le_refl _⟩
  · rename_i hv
    have hv0 : 0 < 2 * v := by omega
    constructor
    · intro hu
      have : rnd (-128 * u) v < 1 := by
        unfold rnd
        refine Int.ediv_lt_of_lt_mul hv0 ?_
        omega
      omega
    · intro hu
      have : 0 ≤ rnd (-128 * u) v := by
        unfold rnd
        refine Int.ediv_nonneg ?_ (by omega)
        omega
      omega
theorem rfl1_mul (u v : Int) : rnd (rfl1 u v * u) 128 ≤ 0 := by
  obtain ⟨h1, h2⟩ := rfl1_sign u v
  have h : rfl1 u v * u ≤ 0 := by
    rcases Int.le_total 0 u with h | h
    · exact Int.mul_nonpos_of_nonpos_of_nonneg (h1 h) h
    · exact Int.mul_nonpos_of_nonneg_of_nonpos (h2 h) h
  unfold rnd
  omega
def rfU (u v : List Int) (k : Int) : List Int := (List.range (u.length - 1)).map fun i => u.getD (i + 1) 0 + rnd (k * v.getD (i + 1) 0) 128
def rfV (u v : List Int) (k : Int) : List Int := (List.range (u.length - 1)).map fun i => v.getD i 0 + rnd (k * u.getD i 0) 128
theorem rfU_len (u v : List Int) (k : Int) : (rfU u v k).length = u.length - 1 := by unfold rfU; simp
theorem rfV_len (u v : List Int) (k : Int) : (rfV u v k).length = u.length - 1 := by unfold rfV; simp
theorem rf_in {B : Int} {u v : List Int} {k : Int} (hB : 0 ≤ B) (hk : -127 ≤ k ∧ k ≤ 127) (hu : inM B u = true) (hv : inM B v = true) : inM (2 * B) (rfU u v k) = true ∧ inM (2 * B) (rfV u v k) = true := by
  have h1 := fun j => getD_in hB hu j
  have h2 := fun j => getD_in hB hv j
  constructor
  · refine inM_all fun x hx => ?_
    unfold rfU at hx
    rw [List.mem_map] at hx
    obtain ⟨i, _, rfl⟩ := hx
    have := rnd_in hB (mul_in hk (h2 (i + 1)))
    have := h1 (i + 1)
    omega
  · refine inM_all fun x hx => ?_
    unfold rfV at hx
    rw [List.mem_map] at hx
    obtain ⟨i, _, rfl⟩ := hx
    have := rnd_in hB (mul_in hk (h1 i))
    have := h2 i
    omega
def flG : Nat → List Int → List Int → List Int
  | 0, _, _ => []
  | n + 1, u, v => rfl1 (u.getD 0 0) (v.getD 0 0) :: flG n (rfU u v (rfl1 (u.getD 0 0) (v.getD 0 0))) (rfV u v (rfl1 (u.getD 0 0) (v.getD 0 0)))
theorem flG_len : ∀ (n : Nat) (u v : List Int), (flG n u v).length = n
  | 0, _, _ => rfl
  | n + 1, u, v => by unfold flG; rw [List.length_cons, flG_len n]
def exF : Nat → Int → Nat → Nat
  | 0, _, h => h
  | n + 1, v, h => if v / 2 ^ h < 1073741824 then h else exF n v (h + 1)
theorem exF_is : ∀ (n : Nat) (v : Int) (h d : Nat), d < n → v / 2 ^ (h + d) < 1073741824 → (∀ j, j < d → 1073741824 ≤ v / 2 ^ (h + j)) → exF n v h = h + d
  | 0, v, h, d, hd, _, _ => by omega
  | n + 1, v, h, d, hd, h1, h2 => by
    unfold exF
    cases d with
    | zero => rw [if_pos (by simpa using h1)]; rfl
    | succ d =>
      rw [if_neg (by have := h2 0 (by omega); rw [Nat.add_zero] at this; omega), exF_is n v (h + 1) d (by omega) (by rw [show h + 1 + d = h + (d + 1) by omega]; exact h1) (fun j hj => by rw [show h + 1 + j = h + (j + 1) by omega]; exact h2 (j + 1) (by omega))]
      omega
def exS (v : Int) : Nat := exF 64 v 0
theorem exS_is {v : Int} {d : Nat} (hd : d < 64) (h1 : v / 2 ^ d < 1073741824) (h2 : ∀ j, j < d → 1073741824 ≤ v / 2 ^ j) : exS v = d := by
  have := exF_is 64 v 0 d hd (by rw [Nat.zero_add]; exact h1) (fun j hj => by rw [Nat.zero_add]; exact h2 j hj)
  unfold exS
  omega
set_option maxRecDepth 100000 in
set_option maxHeartbeats 2000000 in
theorem reflection_any (u v : Int) (w : World) (hu : -35184372088832 ≤ u ∧ u ≤ 35184372088832) (hv : v ≤ 1099511627776) : Calls Try.prog 101 #[.int .i64 u, .int .i64 v] w fun e w' => e = .returned (.int .i64 (rfl1 u v)) ∧ w' = w := by
  have HR := Lib.hid (show rfl1 u v = if v ≤ 0 then 0 else min (max (rnd (-128 * u) v) (-127)) 127 from rfl)
  by_cases h0 : v ≤ 0
  · rw [if_pos h0] at HR
    have t1 : decide (v ≤ 0) = true := decide_eq_true h0
    rw [HR.out]
    clear hu hv h0
    go_enter Try.func101, Try.ntmps101
    go_wp2_with fail
    go_ret
    exact ⟨rfl, rfl⟩
  · rw [if_neg h0] at HR
    have t1 : decide (v ≤ 0) = false := decide_eq_false h0
    obtain ⟨q, hq⟩ : ∃ q, -128 * u = q := ⟨_, rfl⟩
    have z1 : wrap64 (-128 * u) = q := by rw [hq]; exact IntWalk.wrap64_in _ (by omega)
    have z2 : IntKind.i64.wrap (-128 * u) = q := by rw [hq]; exact IntWalk.i64_in _ (by omega)
    have HRd := Lib.hid (lround_any q v w (rat_ok (by omega) hv (by omega) (by omega)))
    rw [hq] at HR
    rw [HR.out]
    generalize rnd q v = R at *
    clear hu hv h0 hq
    go_enter Try.func101, Try.ntmps101
    go_wp2_with fail
    refine HRd.out.mono ?_
    rintro e w' ⟨rfl, rfl⟩
    go_wp2_with fail
    go_ret
    exact ⟨rfl, rfl⟩
set_option maxRecDepth 100000 in
set_option maxHeartbeats 2000000 in
theorem excess_any (v : Int) (w : World) (h0 : 0 ≤ v) (h1 : v ≤ 72057594037927936) : Calls Try.prog 105 #[.int .i64 v] w fun e w' => e = .returned (.int .i64 (exS v : Nat)) ∧ w' = w := by
  have HI := Lib.hid (fun d (hd : d < 64) (h1 : v / 2 ^ d < 1073741824) h2 => exS_is (v := v) hd h1 h2)
  have HBd := Lib.hid (show v / 2 ^ 30 < 1073741824 by
    rw [show (2 : Int) ^ 30 = 1073741824 by decide]; omega)
  generalize exS v = E at *
  clear h0 h1
  go_enter Try.func105, Try.ntmps105
  go_wp2
  go_step3
  go_wp2
  go_step3
  go_wp2
  go_loop [3] (fun i => ∃ k : Nat, k ≤ 30 ∧ i = .int .i64 (k : Int) ∧ ∀ j, j < k → 1073741824 ≤ v / 2 ^ j) (fun i => 31 - (intOf i).toNat)
  case atStart => exact ⟨0, by omega, rfl, fun j hj => by omega⟩
  case round =>
    obtain ⟨k, hk, rfl, hin⟩ := hrel
    have HIn := Lib.hid hin
    clear hin
    by_cases hlt : v / 2 ^ k < 1073741824
    · have t1 : decide (v / 2 ^ k < 1073741824) = true := decide_eq_true hlt
      have HE := Lib.hid (HI.out k (by omega) hlt HIn.out)
      clear hlt
      go_wp2_with fail
      go_ret
      exact ⟨by rw [HE.out]; rfl, rfl⟩
    · have t1 : decide (v / 2 ^ k < 1073741824) = false := decide_eq_false hlt
      have hk30 : k < 30 := by
        by_cases e : k = 30
        · subst e; exact absurd HBd.out hlt
        · omega
      have HN := Lib.hid (show ∀ j, j < k + 1 → 1073741824 ≤ v / 2 ^ j from fun j hj => by
        by_cases e : j = k
        · subst e; omega
        · exact HIn.out j (by omega))
      clear hlt
      go_wp2_with fail
      go_round
      case rel => exact ⟨k + 1, by omega, by go_num, HN.out⟩
      case measure => simp [intOf]; omega
end Go.Proofs.Ytopjjdfnnjgnlaa
