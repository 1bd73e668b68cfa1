/- told: a call of the reference's writer, as the law has it -/
import Derived.Test.YtdjaileeklhkmaaVA
namespace Go.Proofs.Ytdjaileeklhkmaa
open Go.RowKit Go.Shelf

set_option maxRecDepth 100000 in
set_option maxHeartbeats 4000000 in
theorem ltold_any (x : OpD) (b : Nat) (l : List Nat) (v : Value) (w : World) (h : VAt w b l v) (hl : l.length ≤ 1048576) (hx : x.at w) (hz1 : x.zs.length ≤ 1099511627776) :
    Calls Try.prog 15 #[.pointer (some ⟨b, 0, none⟩), x.val] w fun e w' => VRes b v w l x.bad (x.bits l) e w' := by
  obtain ⟨k, z, n, sv, zs⟩ := x
  obtain ⟨hk, hb, hz⟩ := hx
  have hk : k ≤ 255 := hk
  have u1 : Upd NoB w (w.alloc (.cells #[.int .u8 k, .int .i64 z, .int .i64 n, sv] 34)) := (Upd.refl _ _).alloc _
  have hW := Lib.hid (h.later u1)
  have hB := Lib.hid (show Bytes _ sv zs from bytes_later hb u1)
  have U1 := Lib.hid u1
  clear u1 h hb
  change Calls _ _ #[.pointer (some ⟨b, 0, none⟩), .agg #[.int .u8 k, .int .i64 z, .int .i64 n, sv]] w _
  have hkk : k % 6 = 0 ∨ k % 6 = 1 ∨ k % 6 = 2 ∨ k % 6 = 3 ∨ k % 6 = 4 ∨ k % 6 = 5 := by omega
  rcases hkk with hq | hq | hq | hq | hq | hq
  · have HQ := Lib.hid hq
    have t0 : (((k : Int) % 6) == 0) = true := beq_iff_eq.2 (by omega)
    clear hq
    generalize hPost : (fun e w' => VRes b v w l (OpD.bad ⟨k, z, n, sv, zs⟩) (OpD.bits ⟨k, z, n, sv, zs⟩ l) e w') = Post at *
    have HP := Lib.hid hPost; clear hPost
    go_enter Try.func15, Try.ntmps15
    go_wp2_with (go_at_call 51; refine (vPut_any b l v z n _ hW.out hl).mono ?_; intro e w2 hr; obtain ⟨r, rfl⟩ : ∃ r, e = .returned (.int .i64 r) := (by obtain ⟨r, h, _⟩ := hr; exact ⟨r, h⟩); have HR := Lib.hid hr; clear hr)
    change Post (.returned (.int .i64 r)) _
    rw [← HP.out]
    have hf := VRes.after U1.out HR.out
    have hq := HQ.out
    simpa [OpD.bad, OpD.bits, hq] using hf
  · have HQ := Lib.hid hq
    have t0 : (((k : Int) % 6) == 0) = false := beq_eq_false_iff_ne.2 (by omega)
    have t1 : (((k : Int) % 6) == 1) = true := beq_iff_eq.2 (by omega)
    clear hq
    generalize hPost : (fun e w' => VRes b v w l (OpD.bad ⟨k, z, n, sv, zs⟩) (OpD.bits ⟨k, z, n, sv, zs⟩ l) e w') = Post at *
    have HP := Lib.hid hPost; clear hPost
    go_enter Try.func15, Try.ntmps15
    go_wp2_with (go_at_call 52; refine (vSigned_any b l v z n _ hW.out hl).mono ?_; intro e w2 hr; obtain ⟨r, rfl⟩ : ∃ r, e = .returned (.int .i64 r) := (by obtain ⟨r, h, _⟩ := hr; exact ⟨r, h⟩); have HR := Lib.hid hr; clear hr)
    change Post (.returned (.int .i64 r)) _
    rw [← HP.out]
    have hf := VRes.after U1.out HR.out
    have hq := HQ.out
    simpa [OpD.bad, OpD.bits, hq] using hf
  · have HQ := Lib.hid hq
    have t0 : (((k : Int) % 6) == 0) = false := beq_eq_false_iff_ne.2 (by omega)
    have t1 : (((k : Int) % 6) == 1) = false := beq_eq_false_iff_ne.2 (by omega)
    have t2 : (((k : Int) % 6) == 2) = true := beq_iff_eq.2 (by omega)
    clear hq
    generalize hPost : (fun e w' => VRes b v w l (OpD.bad ⟨k, z, n, sv, zs⟩) (OpD.bits ⟨k, z, n, sv, zs⟩ l) e w') = Post at *
    have HP := Lib.hid hPost; clear hPost
    go_enter Try.func15, Try.ntmps15
    go_wp2_with (go_at_call 53; refine (vUnary_any b l v z _ hW.out hl).mono ?_; intro e w2 hr; obtain ⟨r, rfl⟩ : ∃ r, e = .returned (.int .i64 r) := (by obtain ⟨r, h, _⟩ := hr; exact ⟨r, h⟩); have HR := Lib.hid hr; clear hr)
    change Post (.returned (.int .i64 r)) _
    rw [← HP.out]
    have hf := VRes.after U1.out HR.out
    have hq := HQ.out
    simpa [OpD.bad, OpD.bits, hq] using hf
  · have HQ := Lib.hid hq
    have t0 : (((k : Int) % 6) == 0) = false := beq_eq_false_iff_ne.2 (by omega)
    have t1 : (((k : Int) % 6) == 1) = false := beq_eq_false_iff_ne.2 (by omega)
    have t2 : (((k : Int) % 6) == 2) = false := beq_eq_false_iff_ne.2 (by omega)
    have t3 : (((k : Int) % 6) == 3) = true := beq_iff_eq.2 (by omega)
    clear hq
    generalize hPost : (fun e w' => VRes b v w l (OpD.bad ⟨k, z, n, sv, zs⟩) (OpD.bits ⟨k, z, n, sv, zs⟩ l) e w') = Post at *
    have HP := Lib.hid hPost; clear hPost
    go_enter Try.func15, Try.ntmps15
    go_wp2_with (go_at_call 54; refine (vGamma_any b l v z _ hW.out hl).mono ?_; intro e w2 hr; obtain ⟨r, rfl⟩ : ∃ r, e = .returned (.int .i64 r) := (by obtain ⟨r, h, _⟩ := hr; exact ⟨r, h⟩); have HR := Lib.hid hr; clear hr)
    change Post (.returned (.int .i64 r)) _
    rw [← HP.out]
    have hf := VRes.after U1.out HR.out
    have hq := HQ.out
    simpa [OpD.bad, OpD.bits, hq] using hf
  · have HQ := Lib.hid hq
    have t0 : (((k : Int) % 6) == 0) = false := beq_eq_false_iff_ne.2 (by omega)
    have t1 : (((k : Int) % 6) == 1) = false := beq_eq_false_iff_ne.2 (by omega)
    have t2 : (((k : Int) % 6) == 2) = false := beq_eq_false_iff_ne.2 (by omega)
    have t3 : (((k : Int) % 6) == 3) = false := beq_eq_false_iff_ne.2 (by omega)
    have t4 : (((k : Int) % 6) == 4) = true := beq_iff_eq.2 (by omega)
    clear hq
    generalize hPost : (fun e w' => VRes b v w l (OpD.bad ⟨k, z, n, sv, zs⟩) (OpD.bits ⟨k, z, n, sv, zs⟩ l) e w') = Post at *
    have HP := Lib.hid hPost; clear hPost
    go_enter Try.func15, Try.ntmps15
    go_wp2_with (go_at_call 55; refine (vAlign_any b l v z _ hW.out hl).mono ?_; intro e w2 hr; obtain ⟨r, rfl⟩ : ∃ r, e = .returned (.int .i64 r) := (by obtain ⟨r, h, _⟩ := hr; exact ⟨r, h⟩); have HR := Lib.hid hr; clear hr)
    change Post (.returned (.int .i64 r)) _
    rw [← HP.out]
    have hf := VRes.after U1.out HR.out
    have hq := HQ.out
    simpa [OpD.bad, OpD.bits, hq] using hf
  · have HQ := Lib.hid hq
    have t0 : (((k : Int) % 6) == 0) = false := beq_eq_false_iff_ne.2 (by omega)
    have t1 : (((k : Int) % 6) == 1) = false := beq_eq_false_iff_ne.2 (by omega)
    have t2 : (((k : Int) % 6) == 2) = false := beq_eq_false_iff_ne.2 (by omega)
    have t3 : (((k : Int) % 6) == 3) = false := beq_eq_false_iff_ne.2 (by omega)
    have t4 : (((k : Int) % 6) == 4) = false := beq_eq_false_iff_ne.2 (by omega)
    clear hq
    generalize hPost : (fun e w' => VRes b v w l (OpD.bad ⟨k, z, n, sv, zs⟩) (OpD.bits ⟨k, z, n, sv, zs⟩ l) e w') = Post at *
    have HP := Lib.hid hPost; clear hPost
    go_enter Try.func15, Try.ntmps15
    go_wp2_with (go_at_call 56; refine (vAppend_any b l v sv zs n _ hW.out hl hB.out hz1).mono ?_; intro e w2 hr; obtain ⟨r, rfl⟩ : ∃ r, e = .returned (.int .i64 r) := (by obtain ⟨r, h, _⟩ := hr; exact ⟨r, h⟩); have HR := Lib.hid hr; clear hr)
    change Post (.returned (.int .i64 r)) _
    rw [← HP.out]
    have hf := VRes.after U1.out HR.out
    have hq := HQ.out
    simpa [OpD.bad, OpD.bits, hq] using hf
end Go.Proofs.Ytdjaileeklhkmaa
