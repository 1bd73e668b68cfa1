/- calls as data -/
import Derived.Test.YtdjaileeklhkmaaRow
namespace Go.Proofs.Ytdjaileeklhkmaa
open Go.RowKit Go.Shelf

/-- A call as the law has it. -/
structure OpD where
  k : Nat
  v : Int
  n : Int
  sv : Value
  zs : List Nat
def OpD.val (x : OpD) : Value := .agg #[.int .u8 x.k, .int .i64 x.v, .int .i64 x.n, x.sv]
def OpD.bad (x : OpD) : Prop :=
  if x.k % 6 = 0 then putBad x.v x.n else if x.k % 6 = 1 then signedBad x.v x.n else if x.k % 6 = 2 then unaryBad x.v else if x.k % 6 = 3 then gammaBad x.v else if x.k % 6 = 4 then alignBad x.v else appendBad x.zs x.n
def OpD.bits (x : OpD) (l : List Nat) : List Nat :=
  if x.k % 6 = 0 then numBits x.v x.n.toNat else if x.k % 6 = 1 then numBits x.v x.n.toNat else if x.k % 6 = 2 then numBits 0 x.v.toNat ++ numBits 1 1 else if x.k % 6 = 3 then numBits 0 (Nat.log2 x.v.toNat) ++ numBits x.v (Nat.log2 x.v.toNat + 1)
  else if x.k % 6 = 4 then numBits (-x.v) ((8 - l.length % 8) % 8) else bitsOf x.zs 0 x.n.toNat
/-- What is known of a call in a world. -/
def OpD.at (x : OpD) (w : World) : Prop := x.k ≤ 255 ∧ Bytes w x.sv x.zs ∧ x.zs.length ≤ 140737488355328

theorem WPost.pre {w w1 w' : World} {b : Nat} {v0 : Value} {l : List Nat} (u : Upd NoB w w1) (h : WPost b v0 w1 l w') : WPost b v0 w l w' :=
  h.next (u.mono (fun _ _ h => h.elim)) (newOr.refl _ _)
theorem WRes.pre {w w1 w' : World} {b : Nat} {v0 : Value} {l : List Nat} {bad : Prop} {bs : List Nat} {e : Ending} (u : Upd NoB w w1) (h : WRes b v0 w1 l bad bs e w') : WRes b v0 w l bad bs e w' := by
  obtain ⟨r, rfl, ⟨h1, h2, h3⟩ | ⟨h1, h0, h2, h3⟩ | ⟨h1, h0, h2, h3⟩⟩ := h
  · exact ⟨r, rfl, .inl ⟨h1, h2, u.trans h3 (fun k _ h => h)⟩⟩
  · exact ⟨r, rfl, .inr (.inl ⟨h1, h0, h2, u.trans h3 (fun k _ h => h)⟩)⟩
  · exact ⟨r, rfl, .inr (.inr ⟨h1, h0, h2, h3.pre u⟩)⟩

set_option maxRecDepth 100000 in
set_option maxHeartbeats 4000000 in
theorem lwrite_any (x : OpD) (b : Nat) (l : List Nat) (v : Value) (w : World) (h : WAt w b l v) (hl : l.length ≤ 1048576) (hx : x.at w) (hsep : x.zs ≠ [] → ∀ k, x.sv.ownBlock = some k → ¬ wfoot b v k) :
    Calls Try.prog 14 #[.pointer (some ⟨b, 0, none⟩), x.val] w fun e w' => WRes b v w l x.bad (x.bits l) e w' := by
  obtain ⟨k, z, n, sv, zs⟩ := x
  obtain ⟨hk, hb, hz⟩ := hx
  have hk : k ≤ 255 := hk
  have u1 : Upd NoB w (w.alloc (.cells #[.int .u8 k, .int .i64 z, .int .i64 n, sv] 34)) := (Upd.refl _ _).alloc _
  have hW := Lib.hid (h.upd u1 (fun k _ => noB k))
  have hB := Lib.hid (show Bytes _ sv zs from bytes_later hb u1)
  have U1 := Lib.hid u1
  have HS := Lib.hid hsep
  clear u1 h hb hsep
  change Calls _ _ #[.pointer (some ⟨b, 0, none⟩), .agg #[.int .u8 k, .int .i64 z, .int .i64 n, sv]] w _
  have hkk : k % 6 = 0 ∨ k % 6 = 1 ∨ k % 6 = 2 ∨ k % 6 = 3 ∨ k % 6 = 4 ∨ k % 6 = 5 := by omega
  rcases hkk with hq | hq | hq | hq | hq | hq
  · have HQ := Lib.hid hq
    have t0 : (((k : Int) % 6) == 0) = true := beq_iff_eq.2 (by omega)
    clear hq
    generalize hPost : (fun e w' => WRes b v w l (OpD.bad ⟨k, z, n, sv, zs⟩) (OpD.bits ⟨k, z, n, sv, zs⟩ l) e w') = Post at *
    have HP := Lib.hid hPost; clear hPost
    go_enter Try.func14, Try.ntmps14
    go_wp2_with (go_at_call 45; refine (put_any b l v z n _ hW.out hl).mono ?_; intro e w2 hr; obtain ⟨r, rfl⟩ : ∃ r, e = .returned (.int .i64 r) := (by obtain ⟨r, h, _⟩ := hr; exact ⟨r, h⟩); have HR := Lib.hid hr; clear hr)
    change Post (.returned (.int .i64 r)) _
    rw [← HP.out]
    have hf := WRes.pre U1.out HR.out
    have hq := HQ.out
    simpa [OpD.bad, OpD.bits, hq] using hf
  · have HQ := Lib.hid hq
    have t0 : (((k : Int) % 6) == 0) = false := beq_eq_false_iff_ne.2 (by omega)
    have t1 : (((k : Int) % 6) == 1) = true := beq_iff_eq.2 (by omega)
    clear hq
    generalize hPost : (fun e w' => WRes b v w l (OpD.bad ⟨k, z, n, sv, zs⟩) (OpD.bits ⟨k, z, n, sv, zs⟩ l) e w') = Post at *
    have HP := Lib.hid hPost; clear hPost
    go_enter Try.func14, Try.ntmps14
    go_wp2_with (go_at_call 49; refine (signed_any b l v z n _ hW.out hl).mono ?_; intro e w2 hr; obtain ⟨r, rfl⟩ : ∃ r, e = .returned (.int .i64 r) := (by obtain ⟨r, h, _⟩ := hr; exact ⟨r, h⟩); have HR := Lib.hid hr; clear hr)
    change Post (.returned (.int .i64 r)) _
    rw [← HP.out]
    have hf := WRes.pre U1.out HR.out
    have hq := HQ.out
    simpa [OpD.bad, OpD.bits, hq] using hf
  · have HQ := Lib.hid hq
    have t0 : (((k : Int) % 6) == 0) = false := beq_eq_false_iff_ne.2 (by omega)
    have t1 : (((k : Int) % 6) == 1) = false := beq_eq_false_iff_ne.2 (by omega)
    have t2 : (((k : Int) % 6) == 2) = true := beq_iff_eq.2 (by omega)
    clear hq
    generalize hPost : (fun e w' => WRes b v w l (OpD.bad ⟨k, z, n, sv, zs⟩) (OpD.bits ⟨k, z, n, sv, zs⟩ l) e w') = Post at *
    have HP := Lib.hid hPost; clear hPost
    go_enter Try.func14, Try.ntmps14
    go_wp2_with (go_at_call 46; refine (unary_any b l v z _ hW.out hl).mono ?_; intro e w2 hr; obtain ⟨r, rfl⟩ : ∃ r, e = .returned (.int .i64 r) := (by obtain ⟨r, h, _⟩ := hr; exact ⟨r, h⟩); have HR := Lib.hid hr; clear hr)
    change Post (.returned (.int .i64 r)) _
    rw [← HP.out]
    have hf := WRes.pre U1.out HR.out
    have hq := HQ.out
    simpa [OpD.bad, OpD.bits, hq] using hf
  · have HQ := Lib.hid hq
    have t0 : (((k : Int) % 6) == 0) = false := beq_eq_false_iff_ne.2 (by omega)
    have t1 : (((k : Int) % 6) == 1) = false := beq_eq_false_iff_ne.2 (by omega)
    have t2 : (((k : Int) % 6) == 2) = false := beq_eq_false_iff_ne.2 (by omega)
    have t3 : (((k : Int) % 6) == 3) = true := beq_iff_eq.2 (by omega)
    clear hq
    generalize hPost : (fun e w' => WRes b v w l (OpD.bad ⟨k, z, n, sv, zs⟩) (OpD.bits ⟨k, z, n, sv, zs⟩ l) e w') = Post at *
    have HP := Lib.hid hPost; clear hPost
    go_enter Try.func14, Try.ntmps14
    go_wp2_with (go_at_call 48; refine (gamma_any b l v z _ hW.out hl).mono ?_; intro e w2 hr; obtain ⟨r, rfl⟩ : ∃ r, e = .returned (.int .i64 r) := (by obtain ⟨r, h, _⟩ := hr; exact ⟨r, h⟩); have HR := Lib.hid hr; clear hr)
    change Post (.returned (.int .i64 r)) _
    rw [← HP.out]
    have hf := WRes.pre U1.out HR.out
    have hq := HQ.out
    simpa [OpD.bad, OpD.bits, hq] using hf
  · have HQ := Lib.hid hq
    have t0 : (((k : Int) % 6) == 0) = false := beq_eq_false_iff_ne.2 (by omega)
    have t1 : (((k : Int) % 6) == 1) = false := beq_eq_false_iff_ne.2 (by omega)
    have t2 : (((k : Int) % 6) == 2) = false := beq_eq_false_iff_ne.2 (by omega)
    have t3 : (((k : Int) % 6) == 3) = false := beq_eq_false_iff_ne.2 (by omega)
    have t4 : (((k : Int) % 6) == 4) = true := beq_iff_eq.2 (by omega)
    clear hq
    generalize hPost : (fun e w' => WRes b v w l (OpD.bad ⟨k, z, n, sv, zs⟩) (OpD.bits ⟨k, z, n, sv, zs⟩ l) e w') = Post at *
    have HP := Lib.hid hPost; clear hPost
    go_enter Try.func14, Try.ntmps14
    go_wp2_with (go_at_call 47; refine (align_any b l v z _ hW.out hl).mono ?_; intro e w2 hr; obtain ⟨r, rfl⟩ : ∃ r, e = .returned (.int .i64 r) := (by obtain ⟨r, h, _⟩ := hr; exact ⟨r, h⟩); have HR := Lib.hid hr; clear hr)
    change Post (.returned (.int .i64 r)) _
    rw [← HP.out]
    have hf := WRes.pre U1.out HR.out
    have hq := HQ.out
    simpa [OpD.bad, OpD.bits, hq] using hf
  · have HQ := Lib.hid hq
    have t0 : (((k : Int) % 6) == 0) = false := beq_eq_false_iff_ne.2 (by omega)
    have t1 : (((k : Int) % 6) == 1) = false := beq_eq_false_iff_ne.2 (by omega)
    have t2 : (((k : Int) % 6) == 2) = false := beq_eq_false_iff_ne.2 (by omega)
    have t3 : (((k : Int) % 6) == 3) = false := beq_eq_false_iff_ne.2 (by omega)
    have t4 : (((k : Int) % 6) == 4) = false := beq_eq_false_iff_ne.2 (by omega)
    clear hq
    generalize hPost : (fun e w' => WRes b v w l (OpD.bad ⟨k, z, n, sv, zs⟩) (OpD.bits ⟨k, z, n, sv, zs⟩ l) e w') = Post at *
    have HP := Lib.hid hPost; clear hPost
    go_enter Try.func14, Try.ntmps14
    go_wp2_with (go_at_call 50; refine (append_any b l v sv zs n _ hW.out hl hB.out hz HS.out).mono ?_; intro e w2 hr; obtain ⟨r, rfl⟩ : ∃ r, e = .returned (.int .i64 r) := (by obtain ⟨r, h, _⟩ := hr; exact ⟨r, h⟩); have HR := Lib.hid hr; clear hr)
    change Post (.returned (.int .i64 r)) _
    rw [← HP.out]
    have hf := WRes.pre U1.out HR.out
    have hq := HQ.out
    simpa [OpD.bad, OpD.bits, hq] using hf
end Go.Proofs.Ytdjaileeklhkmaa
