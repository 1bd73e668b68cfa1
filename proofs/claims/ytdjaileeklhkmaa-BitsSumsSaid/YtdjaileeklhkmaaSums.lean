/- Crc16 and Crc32 of the program are the reference's, for any bytes (at most 5,000). No condition. -/
import Derived.Test.YtdjaileeklhkmaaRow
namespace Go.Proofs.Ytdjaileeklhkmaa
open Go.ChangeShapes Go.WideShapes Go.ChangeAt Go.RowKit

theorem sums_any (a : Option Addr) (len cap : Nat) (zs : List Int) (w : World) (h : IsRow .u8 w a len cap zs) :
    Calls Try.prog 5 #[.slice a len cap] w fun e w' => e = .returned (.bool true) ∧ Below w.heap.size w w' := by
  obtain ⟨hb, hn, hm⟩ := bytes_of_row h
  unfold maxLen at hm
  generalize natsOf zs len = ys at *
  subst hn
  clear h
  have HB := Lib.hid hb; clear hb
  by_cases h5 : ys.length ≤ 5000
  · have t5 : decide ((5000 : Int) < (ys.length : Int)) = false := decide_eq_false (by omega)
    have hl : ys.length ≤ 1099511627776 := by omega
    obtain ⟨c, hc⟩ : ∃ c, (bitsOf ys 0 (8 * ys.length)).foldl c16 65535 = c := ⟨_, rfl⟩
    obtain ⟨d, hd⟩ : ∃ d, (lowOf ys).foldl c32 4294967295 ^^^ 4294967295 = d := ⟨_, rfl⟩
    have HC := Lib.hid hc; have HD := Lib.hid hd; clear hc hd
    go_enter Try.func5, Try.ntmps5
    go_wp2_with fail
    refine (crc16_any _ ys w HB.out hl).mono ?_
    rintro e w1 ⟨rfl, u1⟩
    rw [HC.out]
    have B1 := Lib.hid (bytes_later HB.out u1); have U1 := Lib.hid u1; clear u1 HB
    go_wp2_with fail
    refine (refcrc16_any _ ys w1 B1.out hl).mono ?_
    rintro e w2 ⟨rfl, u2⟩
    rw [HC.out]
    have B2 := Lib.hid (bytes_later B1.out u2); have U2 := Lib.hid (U1.out.trans u2 (fun k _ h => h)); clear u2 B1 U1
    go_wp2_with fail
    refine (crc32_any _ ys w2 B2.out hl).mono ?_
    rintro e w3 ⟨rfl, u3⟩
    rw [HD.out]
    have B3 := Lib.hid (bytes_later B2.out u3); have U3 := Lib.hid (U2.out.trans u3 (fun k _ h => h)); clear u3 B2 U2
    go_wp2_with fail
    refine (refcrc32_any _ ys w3 B3.out hl).mono ?_
    rintro e w4 ⟨rfl, rfl⟩
    rw [HD.out]
    go_wp2_with fail
    refine (awake_any w4).mono ?_
    rintro e w5 ⟨rfl, u5⟩
    have U5 := Lib.hid (U3.out.trans u5 (fun k _ h => h)); clear u5 U3 B3
    go_wp2_with fail
    go_ret
    exact ⟨rfl, U5.out.below⟩
  · have t5 : decide ((5000 : Int) < (ys.length : Int)) = true := decide_eq_true (by omega)
    go_enter Try.func5, Try.ntmps5
    go_wp2_with fail
    refine (awake_any w).mono ?_
    rintro e w5 ⟨rfl, u5⟩
    have U5 := Lib.hid u5; clear u5
    go_wp2_with fail
    go_ret
    exact ⟨rfl, U5.out.below⟩

set_option maxRecDepth 100000 in
theorem sums_lifted (os : Os) (started : os.Started) (H : Type) (enc : TypeId × Value → H) :
    ReturnsInHanded {} Try.checked os 5 .any (Rows.bitsSumsSpec.pre6 enc Try.prog Try.f5 Rows.bitsSumsRow.domain false) (Rows.bitsSumsSpec.post enc Try.prog Try.f5 false true false false) := by
  refine returnsInHanded_of_change (C := Try.checked) own started (by kernel_rfl) Try.func5
    (ChangeSpec.witness6 (enc := enc) (C := Try.checked) false ⟨#[], #[.slice none 0 0], []⟩ 8 (by kernel_rfl) (by kernel_rfl) (by kernel_rfl) (by kernel_rfl)) ?_
  intro W base args ds gs before hval0 hW hcnd _
  have hval : ∀ (j : Nat) t v, Try.f5.params[j]? = some t → args[j]? = some v → Value.okWide Try.prog W .any base t v := hval0
  have hW' := hW
  obtain ⟨p, q, hA0, hV, rfl, hfz, hnd⟩ := hW
  have hA : DataW.TrodAll enc Try.prog W 0 (fun _ => true) true Try.f5.params.toList args.toList ds p := hA0
  rw [Try.params5] at hA hval
  obtain ⟨v0, vs0, d0, ds0, p0, q0, hargs, rfl, rfl, h0, r0⟩ := trodAll_cons hA
  obtain ⟨rfl, rfl, rfl⟩ := trodAll_nil r0
  obtain rfl : args = #[v0] := by cases args; simp_all
  obtain ⟨rfl, rfl⟩ := trodVars_none hV
  obtain ⟨a0, len0, cap0, rfl⟩ := okWide_slice Try.underlying27 (hval 0 27 v0 rfl rfl)
  have k0 := h0
  have lt0 : ∀ x ∈ p0, x.block < W.heap.size := by obtain ⟨m, hm⟩ := k0; exact DataW.trod_lt m _ _ _ hm
  obtain ⟨z0, w0⟩ := row_of_trod (fun _ => rfl) h0
  clear hA0 hval0
  refine (sums_any a0 len0 cap0 z0 W w0).mono fun e W' ⟨he, bel⟩ => ?_
  subst he
  exact ⟨_, rfl, _, _, _, [], _, [], hW', trodAll_mk1 (shut_bool Try.underlying4 _), (trodAll_cons_mk (Below.trod laidOut (by kernel_rfl) (of_decide_eq_true (by kernel_rfl)) k0 bel lt0) trodAll_mk0), rfl, bel.frame _, fun h => by cases h⟩

theorem sums_holds : Rows.BitsSumsSaid :=
  OpenClaim.holds_of_wide 5 Try.f5 rfl rfl rfl rfl rfl rfl rfl ⟨rfl, rfl, rfl, rfl, rfl⟩ rfl rfl rfl rfl rfl (by kernel_rfl) Try.func5 (by kernel_rfl)
    (of_decide_eq_true (by kernel_rfl)) (by unfold Func.isWrapper; first | (rw [if_pos (by decide +kernel)]; kernel_rfl) | (rw [if_neg (by decide +kernel)]; exact ⟨rfl, rfl⟩))
    (fun os started H enc _ => sums_lifted os started H enc)
end Go.Proofs.Ytdjaileeklhkmaa
