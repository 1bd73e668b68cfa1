/- Take and Open, whole -/
import Derived.Test.YtjnbnhnkjhnbkaaTake
namespace Go.Proofs.Ytjnbnhnkjhnbkaa
open Go.RowKit Go.Shelf

def takeOut (zs : List Nat) (cnt at_ : Nat) (n : Int) : List Nat × Int × Nat :=
  if n < 0 then ([], 1, at_) else if (cnt : Int) - at_ < n then ([], 3, at_) else (pack (bitsOf zs at_ n.toNat), 0, at_ + n.toNat)
theorem row8_nil (w : World) : Row8 w (.slice none 0 0) [] := ⟨World.ownsRow_nil _ _ _ _, fun j => by simp⟩
/-- Open: ErrArg, ErrFull, or a reader of the first n bits. -/
def ORes (w : World) (zs : List Nat) (n : Int) (e : Ending) (w' : World) : Prop :=
  ((n < 0 ∨ 8 * (zs.length : Int) < n) ∧ e = .returned (.tuple #[.pointer none, .int .i64 1]) ∧ Upd NoB w w') ∨
  (¬ (n < 0 ∨ 8 * (zs.length : Int) < n) ∧ 1048576 < n ∧ e = .returned (.tuple #[.pointer none, .int .i64 2]) ∧ Upd NoB w w') ∨
  (¬ (n < 0 ∨ 8 * (zs.length : Int) < n) ∧ n ≤ 1048576 ∧ ∃ p sv, e = .returned (.tuple #[.pointer (some ⟨p, 0, none⟩), .int .i64 0]) ∧ w.heap.size ≤ p ∧ RAt w' p sv (zs.take ((n.toNat + 7) / 8)) n.toNat 0 ∧ newB w sv ∧ sv.ownBlock ≠ some p ∧ Upd NoB w w')
theorem row8_slice {w : World} {v : Value} {zs : List Nat} (h : Row8 w v zs) : ∃ a c, v = .slice a zs.length c := by
  rcases h.1.2 with ⟨rfl, hn⟩ | ⟨g, cap, cur, rfl, _⟩
  · exact ⟨none, 0, by rw [hn]⟩
  · exact ⟨_, _, rfl⟩
theorem run_slice3 {P : Program} (w : World) (t e : TypeId) (i : TypeInfo) (hu : P.underlying t = some (.slice e)) (hi : P.info? e = some i) (a : Option Addr) (n cap k : Nat) (hk : k ≤ cap) :
    (Instr.slice t (.slice a n cap) none (some (.int .i64 (k : Int))) (some (.int .i64 (k : Int)))).run P w = .ok (.slice a k k) w := by
  have ha : a.map (·.add (0 * i.size)) = a := by cases a <;> simp [Addr.add]
  simp [Instr.slice, Instr.sliceBounds, Instr.sliceBound, asIntOf, run_underlying hu, sizeOf, typeInfo, hi, go_sem, hk]
theorem Bytes.cut {w : World} {a : Option Addr} {cap : Nat} {zs : List Nat} (h : Bytes w (.slice a zs.length cap) zs) {k : Nat} (hk : k ≤ zs.length) : Bytes w (.slice a k k) (zs.take k) := by
  obtain ⟨h1, a', cap', he, hlc, h2⟩ := h
  cases he
  refine ⟨fun j => ?_, a, k, by simp [Nat.min_eq_left hk], by simp; omega, ?_⟩
  · simp only [List.getD_eq_getElem?_getD, List.getElem?_take]
    by_cases hj : j < k
    · rw [if_pos hj]; have := h1 j; rwa [List.getD_eq_getElem?_getD] at this
    · rw [if_neg hj]; simp
  · rcases h2 with rfl | ⟨b, off, rfl, h2⟩
    · exact .inl (by simp)
    · refine .inr ⟨b, off, rfl, fun j hj => ?_⟩
      have hj' : j < k := by simp at hj; omega
      rw [h2 j (by omega)]
      simp only [List.getD_eq_getElem?_getD, List.getElem?_take, if_pos hj']
set_option maxRecDepth 100000 in
set_option maxHeartbeats 1000000 in
theorem open_any (sv : Value) (zs : List Nat) (n : Int) (w : World) (h : Bytes w sv zs) (hl : zs.length ≤ 140737488355328) :
    Calls Try.prog 33 #[sv, .int .i64 n] w fun e w' => ORes w zs n e w' := by
  obtain ⟨a, cap, rfl⟩ : ∃ a cap, sv = .slice a zs.length cap := by obtain ⟨_, a, cap, rfl, _⟩ := h; exact ⟨a, cap, rfl⟩
  by_cases h1 : n < 0
  · have hr : n < 0 ∨ 8 * (zs.length : Int) < n := .inl h1
    have Hr := Lib.hid hr; clear hr h
    go_enter Try.func33, Try.ntmps33
    go_wp2
    go_ret2
    exact .inl ⟨Hr.out, rfl, Upd.refl _ _⟩
  by_cases h2 : 8 * (zs.length : Int) < n
  · have hr : n < 0 ∨ 8 * (zs.length : Int) < n := .inr h2
    have Hr := Lib.hid hr; clear hr h
    go_enter Try.func33, Try.ntmps33
    go_wp2
    go_ret2
    exact .inl ⟨Hr.out, rfl, Upd.refl _ _⟩
  have hr : ¬ (n < 0 ∨ 8 * (zs.length : Int) < n) := by omega
  have Hr := Lib.hid hr; clear hr
  by_cases h3 : 1048576 < n
  · clear h
    go_enter Try.func33, Try.ntmps33
    go_wp2
    go_ret2
    exact .inr (.inl ⟨Hr.out, h3, rfl, Upd.refl _ _⟩)
  obtain ⟨m, rfl⟩ := Int.eq_ofNat_of_zero_le (show 0 ≤ n by omega)
  have hk : (m + 7) / 8 ≤ zs.length := by omega
  have hcut := h.cut hk
  have hcap : zs.length ≤ cap := by obtain ⟨_, a', cap', he, hlc, _⟩ := h; cases he; exact hlc
  have hlen : (zs.take ((m + 7) / 8)).length = (m + 7) / 8 := by simp; omega
  have hcl := clone_any _ _ w hcut (by omega)
  have q0 : ((m : Int) + 7) / 8 = ((m + 7) / 8 : Nat) := by omega
  have Hq0 := Lib.hid q0
  have HC := Lib.hid hcl; clear hcl h hcut
  have Hlen := Lib.hid hlen; clear hlen
  have hkc : (m + 7) / 8 ≤ cap := by omega
  obtain ⟨i0, hi, hz0, hz1, hz2⟩ := info_parts Try.info5
  have hsl := fun (w : World) => run_slice3 (P := Try.prog) w 32 5 i0 Try.underlying32 hi a zs.length cap ((m + 7) / 8) hkc
  rw [← q0] at hsl
  clear q0
  go_enter Try.func33, Try.ntmps33
  go_wp2_with (go_at_call 76; refine HC.out.mono ?_; rintro e w2 ⟨v, rfl, hr8, hu2, hn2⟩; obtain ⟨a2, c2, rfl⟩ := row8_slice hr8; rw [Hlen.out] at hr8 hn2 ⊢)
  go_ret2
  have hb := heap_alloc_new w2 (.cells #[.slice a2 ((m + 7) / 8) c2, .int .i64 m, .int .i64 0] 97)
  have u3 : Upd NoB w2 (w2.alloc (.cells #[.slice a2 ((m + 7) / 8) c2, .int .i64 m, .int .i64 0] 97)) := (Upd.refl _ _).alloc _
  refine .inr (.inr ⟨Hr.out, by omega, w2.heap.size, .slice a2 ((m + 7) / 8) c2, rfl, hu2.size, ⟨?_, ?_, ?_, Nat.zero_le _, ?_, ?_⟩, hn2, fun e => ?_, hu2.then u3⟩)
  · rw [Int.toNat_natCast]; exact hb
  · rw [Int.toNat_natCast]
    refine hr8.bytes.keep (D := fun k => k < w2.heap.size) (u3.keepD (fun k hk => ⟨hk, noB k⟩)) (fun _ k hk => (hr8.1.lt k hk).2)
  · rw [Int.toNat_natCast, Hlen.out]; omega
  · rw [Int.toNat_natCast]; omega
  · rw [Int.toNat_natCast, Hlen.out]; omega
  · have := (hr8.1.lt _ e).2; omega
end Go.Proofs.Ytjnbnhnkjhnbkaa
