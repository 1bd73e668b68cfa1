/- linear: the reference's differences -/
import Derived.Test.YtopjjdfnnjgnlaaTXm
namespace Go.Proofs.Ytopjjdfnnjgnlaa
open Go.RowKit Go.Shelf

/-- the element before the k-th -/
def befG (b : Int) (x : List Int) (k : Nat) : Int := if k = 0 then b else x.getD (k - 1) 0
theorem difG_take {x : List Int} {b v : Int} {k : Nat} (h : x[k]? = some v) : (difG b x).take (k + 1) = (difG b x).take k ++ [v - befG b x k] := by
  have hk := (List.getElem?_eq_some_iff.1 h).1
  have e := getD_of (xs := difG b x) (j := k) (by rw [difG_len]; exact hk)
  have hv : x.getD k 0 = v := by rw [List.getD_eq_getElem?_getD, h]; rfl
  rw [List.take_add_one, e, difG_get x b k hk, hv]
  rfl
theorem befG_next {x : List Int} {b v : Int} {k : Nat} (h : x[k]? = some v) : befG b x (k + 1) = v := by
  unfold befG
  rw [if_neg (by omega), Nat.add_sub_cancel, List.getD_eq_getElem?_getD, h]
  rfl
theorem befG_in {x : List Int} {b M : Int} (hM : 0 ≤ M) (hb : -M ≤ b ∧ b ≤ M) (hx : inM M x = true) (k : Nat) : -M ≤ befG b x k ∧ befG b x k ≤ M := by
  unfold befG
  split
  · exact hb
  · exact getD_in hM hx _
set_option maxRecDepth 100000 in
set_option maxHeartbeats 4000000 in
theorem rdiff_any (sv : Value) (x : List Int) (w : World) (h : Ints w sv x) (hx : inM 1099511627776 x = true) (hl : x.length ≤ 8192) : Calls Try.prog 70 #[sv] w (IRes w (difG 0 x)) := by
  have HX := Lib.hid h
  have HXi := Lib.hid (fun k v (hv : x[k]? = some v) => inM_yes hx v (List.mem_of_getElem? hv))
  have HBi := Lib.hid (fun k => befG_in (b := 0) (by decide) (by decide) hx k)
  have HBn := Lib.hid (fun k v (hv : x[k]? = some v) => befG_next (b := 0) hv)
  have HDt := Lib.hid (fun k v (hv : x[k]? = some v) => difG_take (b := 0) hv)
  have HDl := Lib.hid (difG_len 0 x)
  have HDe := Lib.hid (show (difG 0 x).take x.length = difG 0 x from List.take_of_length_le (by rw [difG_len]; exact Nat.le_refl _))
  have HB0 := Lib.hid (show befG 0 x 0 = 0 from rfl)
  obtain ⟨a, cap, rfl⟩ := h.form
  obtain ⟨D, hD⟩ : ∃ D, difG 0 x = D := ⟨_, rfl⟩
  rw [hD] at HDt HDl HDe ⊢
  obtain ⟨L, hL⟩ : ∃ L, x.length = L := ⟨_, rfl⟩
  have HL := Lib.hid hL
  rw [hL] at HX HDl HDe hl ⊢
  clear h hx hD hL
  go_enter Try.func70, Try.ntmps70
  go_wp2_with fail
  go_loopw [3, 4, 9] (fun v bf i wr => ∃ k : Nat, k ≤ L ∧ i = .int .i64 k ∧ bf = .int .i64 (befG 0 x k) ∧ wr.ownsRow w.heap.size 3 1 v k (i64s (D.take k)) ∧ Upd NoB w wr) (fun _ _ i _ => L - (intOf i).toNat)
  case atStart => exact ⟨0, Nat.zero_le _, rfl, rfl, World.ownsRow_nil _ _ _ _, Upd.refl _ _⟩
  case round =>
    obtain ⟨k, hk, rfl, rfl, hown, hu⟩ := hrel
    obtain ⟨va, vc, rfl⟩ := row_form hown
    have HO := Lib.hid hown; have HU := Lib.hid hu
    have hb := hu.size
    by_cases hlt : k < L
    · obtain ⟨v, hv⟩ : ∃ v, x[k]? = some v := ⟨_, List.getElem?_eq_getElem (by rw [HL.out]; exact hlt)⟩
      obtain ⟨bb, off, rfl, c0⟩ := (HX.out.later hu).cellAt hv
      have hvi := HXi.out k v hv
      have hbi := HBi.out k
      have HT := Lib.hid (HDt.out k v hv)
      have HN := Lib.hid (HBn.out k v hv)
      generalize befG 0 x k = P at *
      have z1 : wrap64 (v - P) = v - P := IntWalk.wrap64_in _ (by omega)
      have z2 : IntKind.i64.wrap (v - P) = v - P := IntWalk.i64_in _ (by clear z1; omega)
      have hk1 : k ≤ 1000000 := by clear z1 z2; omega
      clear hown hu hv hvi hbi
      go_wp2_with (at_builtin; refine wpList_push rfl (.tmp 13) (.tmp 17) rfl w.heap.size (.slice va k vc) k (D.take k) (v - P) rfl rfl HO.out hk1 hb ?_; intro v' w' hown' u'; have R' := Lib.hid hown'; have U' := Lib.hid u'; clear hown' u')
      go_roundw
      case rel => exact ⟨k + 1, by clear z1 z2; omega, by go_num, by rw [HN.out], by rw [HT.out]; exact R'.out, upd_ge ((upd_ge' HU.out w.heap.size).trans U'.out (fun _ _ h => h))⟩
      case measure => clear z1 z2; simp [intOf]; omega
    · obtain rfl : k = L := by omega
      rw [HDe.out] at hown
      have HR := Lib.hid hown
      clear hown hu hlt
      go_wp2_with fail
      go_ret
      exact ⟨_, rfl, by rw [HDl.out]; exact HR.out, HU.out⟩
end Go.Proofs.Ytopjjdfnnjgnlaa
