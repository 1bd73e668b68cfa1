/- the writer: fields -/
import Derived.Test.YtjnbnhnkjhnbkaaClone
namespace Go.Proofs.Ytjnbnhnkjhnbkaa
open Go.RowKit Go.Shelf
attribute [local go_sem] Oper.semAt_some

abbrev Fld := { p : Int × Nat // p.2 ≤ 1001 ∧ -9223372036854775808 ≤ p.1 ∧ p.1 ≤ 9223372036854775807 }
def fldSum (fs : List Fld) : Nat := (fs.map fun p => p.1.2).sum
def fldBits (fs : List Fld) : List Nat := (fs.map fun p => numBits p.1.1 p.1.2).flatten
theorem fldBits_length (fs : List Fld) : (fldBits fs).length = fldSum fs := by
  induction fs with
  | nil => rfl
  | cons p fs ih => simp only [fldBits, fldSum, List.map_cons, List.flatten_cons, List.length_append, List.sum_cons, numBits_length] at ih ⊢; rw [ih]
theorem fldSum_snoc (fs : List Fld) (p : Fld) : fldSum (fs ++ [p]) = fldSum fs + p.1.2 := by simp [fldSum]
theorem fldBits_snoc (fs : List Fld) (p : Fld) : fldBits (fs ++ [p]) = fldBits fs ++ numBits p.1.1 p.1.2 := by simp [fldBits]
theorem fldSum_take (fs : List Fld) (k : Nat) : fldSum (fs.take k) ≤ 1001 * k := by
  induction k generalizing fs with
  | zero => simp [fldSum]
  | succ k ih =>
    cases fs with
    | nil => simp [fldSum]
    | cons p fs =>
      have := ih fs
      have := p.2.1
      simp only [fldSum, List.take_succ_cons, List.map_cons, List.sum_cons] at *
      omega
/-- The slice sv holds the fields fs. -/
def Flds (W : World) (sv : Value) (fs : List Fld) : Prop :=
  ∃ b cap, sv = .slice (some ⟨b, 0, none⟩) fs.length cap ∧ (∃ c fr, W.heap[b]? = some (.cells c 113 fr)) ∧ ∀ j p, fs[j]? = some p → W.cell? ⟨b, j * 2, none⟩ = some (.int .i64 p.1.1) ∧ W.cell? ⟨b, j * 2 + 1, none⟩ = some (.int .i64 (p.1.2 : Nat))
theorem Flds.keep {W W' : World} {sv : Value} {fs : List Fld} (h : Flds W sv fs) {D : Nat → Prop} (k : KeepD D W W') (hd : ∀ b, sv.ownBlock = some b → D b) : Flds W' sv fs := by
  obtain ⟨b, cap, rfl, ⟨c, fr, hcf⟩, h⟩ := h
  exact ⟨b, cap, rfl, ⟨c, fr, (k b (hd b rfl)).trans hcf⟩, fun j p hj => ⟨(k.cell (p := ⟨b, j * 2, none⟩) (hd b rfl)).trans (h j p hj).1, (k.cell (p := ⟨b, j * 2 + 1, none⟩) (hd b rfl)).trans (h j p hj).2⟩⟩

theorem KeepD.alloc {D : Nat → Prop} {W wr : World} (h : KeepD D W wr) (hlt : ∀ k, D k → k < W.heap.size) (o : Obj) : KeepD D W (wr.alloc o) := fun k hk => by
  have h1 := h k hk
  have h2 : k < wr.heap.size := by
    rw [Array.getElem?_eq_getElem (hlt k hk)] at h1
    exact (Array.getElem?_eq_some_iff.1 h1).1
  exact (Below.heap_alloc _ _ _ h2).trans h1
theorem values_in (sv : Value) (w : World) (hsv : ∃ a n c, sv = .slice a n c) :
    Calls Try.prog 108 #[sv] w fun e w' =>
      e = .returned (.func (.func 113) #[] #[.pointer (some ⟨w.heap.size, 0, none⟩)]) ∧ w' = w.alloc (.cells #[sv] 122) := by
  obtain ⟨a, n, c, rfl⟩ := hsv
  go_enter Try.func108, Try.ntmps108
  go_wp2
  go_ret
  exact ⟨rfl, rfl⟩

set_option maxRecDepth 100000 in
set_option maxHeartbeats 1000000 in
theorem values1_in (l Bs : Nat) (sv : Value) (fs : List Fld) (N : Nat) (hN : fs.length ≤ N) (hreach : fs.length ≤ 1000)
    (J Jx : List Fld → World → Prop) (D : Nat → Prop) (hDs : D Bs) (hDv : ∀ b, sv.ownBlock = some b → D b)
    (hJ : ∀ s W W', J s W → W.grownBy W' none → J s W')
    (hY : ∀ pre x W, J pre W → pre.length < N → YieldAt Fence.wide 0 Try.prog l #[.agg #[.int .i64 x.1.1, .int .i64 (x.1.2 : Nat)]] W fun e W' =>
      (e = .returned (.bool true) ∧ J (pre ++ [x]) W' ∧ KeepD D W W') ∨ (e = .returned (.bool false) ∧ Jx (pre ++ [x]) W'))
    (W : World) (hDlt : ∀ k, D k → k < W.heap.size) (hb : W.cell? ⟨Bs, 0, none⟩ = some sv) (hs : Flds W sv fs) (h0 : J [] W) :
    CallsIn Fence.wide 1 Try.prog 113 #[.func (.yield l) #[] #[], .pointer (some ⟨Bs, 0, none⟩)] W fun e W' => (∃ v, e = .returned v) ∧
      ((∃ ys, ys = fs ∧ J ys W') ∨ (∃ pre, pre <+: fs ∧ Jx pre W')) := by
  refine callsIn_of_wp Try.func113 rfl trivial ?_ rfl
  simp only [Try.ntmps113, List.size_toArray, List.length_cons, List.length_nil, Nat.reduceAdd, Nat.reduceSub, Array.replicate_succ, Array.replicate_zero, List.push_toArray, List.append_toArray, List.nil_append, List.cons_append]
  obtain ⟨b, cap, rfl, _, hc⟩ := hs
  have Hc := Lib.hid @hc; clear hc
  have HJ := Lib.hid @hJ; clear hJ
  have HY := Lib.hid @hY; clear hY
  gi_wp2
  gi_loopw [7] (fun i wr => ∃ (k : Nat), k ≤ fs.length ∧ i = .int .i64 k ∧ J (fs.take k) wr ∧ KeepD D W wr)
    (fun i _ => fs.length - (intOf i).toNat)
  case atStart => exact ⟨0, Nat.zero_le _, rfl, h0, KeepD.refl _ _⟩
  case round =>
    obtain ⟨k, hk, rfl, hJs, hkd⟩ := hrel
    have eb := (hkd.cell (p := ⟨Bs, 0, none⟩) hDs).trans hb
    by_cases hlt : k < fs.length
    · obtain ⟨⟨⟨x, n⟩, hx⟩, hp⟩ : ∃ p : Fld, fs[k]? = some p := ⟨fs[k], List.getElem?_eq_getElem hlt⟩
      have ⟨c0, c1⟩ := Hc.out k _ hp
      have d0 : wr.cell? ⟨b, k * 2, none⟩ = some (.int .i64 x) := (hkd.cell (p := ⟨b, k * 2, none⟩) (hDv b rfl)).trans c0
      have d1 : wr.cell? ⟨b, k * 2 + 1, none⟩ = some (.int .i64 n) := (hkd.cell (p := ⟨b, k * 2 + 1, none⟩) (hDv b rfl)).trans c1
      clear c0 c1
      have Hp := Lib.hid hp; clear hp
      have hJa := HJ.out _ _ _ hJs (World.grownBy_alloc wr (.cells #[.int .i64 x, .int .i64 n] 113) none)
      have hka := hkd.alloc hDlt (.cells #[.int .i64 x, .int .i64 n] 113)
      obtain ⟨fn, tmps, assign, body, hy, hR⟩ := HY.out _ ⟨(x, n), hx⟩ _ hJa (by simp; omega)
      dsimp only at hy
      have htk : fs.take k ++ [(⟨(x, n), hx⟩ : Fld)] = fs.take (k + 1) := by
        rw [List.take_add_one, Hp.out]; rfl
      rw [htk] at hR
      clear htk
      gi_wp2
      refine hR.mono ?_
      rintro e W3 (⟨rfl, hJ3, hk3⟩ | ⟨rfl, hJx3⟩)
      · gi_wp2
        go_roundw
        case rel => exact ⟨k + 1, by omega, by go_num, hJ3, hka.trans hk3⟩
        case measure => simp [intOf]; omega
      · gi_wp2
        refine bodyPost_ret (results_none rfl _ _ _) rfl ?_
        exact ⟨⟨_, rfl⟩, .inr ⟨fs.take (k + 1), List.take_prefix _ _, hJx3⟩⟩
    · obtain rfl : k = fs.length := by omega
      rw [List.take_length] at hJs
      gi_wp2
      go_end0
      exact ⟨⟨_, rfl⟩, .inl ⟨fs, rfl, hJs⟩⟩

abbrev encFld (x : Fld) : Array Value := #[.agg #[.int .i64 x.1.1, .int .i64 (x.1.2 : Nat)]]
def valD (B : Nat) (sv : Value) : Nat → Prop := fun k => k = B ∨ sv.ownBlock = some k
theorem values_seq (B : Nat) (sv : Value) (fs : List Fld) (w : World) (hreach : fs.length ≤ 1000) (hb : w.cell? ⟨B, 0, none⟩ = some sv) (hs : Flds w sv fs) (hD : ∀ k, valD B sv k → k < w.heap.size) :
    SeqStopsK Fence.wide 1 Try.prog 113 #[.pointer (some ⟨B, 0, none⟩)] encFld (KeepD (valD B sv)) (fun ys => ys = fs) (fun pre => pre <+: fs) fs.length w := fun l J Jx W hW hJ _ hY h0 => by
  have hk : KeepD (valD B sv) w W := fun k hk => hW.block k (hD k hk)
  exact values1_in l B sv fs fs.length (Nat.le_refl _) hreach J Jx (valD B sv) (.inl rfl) (fun b h => .inr h) (fun s A A' hs hg => hJ s A A' none hs hg (fun r e => by cases e)) hY W (fun k hk' => Nat.lt_of_lt_of_le (hD k hk') hW.size)
    ((hk.cell (p := ⟨B, 0, none⟩) (.inl rfl)).trans hb) (hs.keep hk (fun b h => .inr h)) h0

set_option maxRecDepth 100000 in
set_option maxHeartbeats 1000000 in
/-- feed of fields. -/
theorem feedf_in {gf K : Nat} {lb first cap : Array Value} {Kp : World → World → Prop} {S Sp : List Fld → Prop} {N : Nat} (w : World)
    (eg : ∀ args w, (callFunc gf args).run Try.prog w = .ok (.enter gf args) w) (eK : ∀ args w, (callFunc K args).run Try.prog w = .ok (.enter K args) w)
    (hseq : SeqStopsK Fence.wide 1 Try.prog gf lb encFld Kp S Sp N w)
    (hKt : ∀ {A B C : World}, Kp A B → Kp B C → Kp A C) (hKb : ∀ (W : World) (l : Nat) (o' : Obj), w.heap.size ≤ l → Kp W (W.putObj l o'))
    (hKa : ∀ (W : World) (o' : Obj), w.heap.size ≤ W.heap.size → Kp W (W.alloc o'))
    (I : List Fld → World → Prop) (hI : OwnFrom w.heap.size I) (hIs : ∀ pre W, I pre W → w.heap.size ≤ W.heap.size) (h0 : I [] w)
    (hK : ∀ pre x W, I pre W → pre.length < N → W.heap[w.heap.size]? = some (.cells #[.func (.func K) first cap] 127 (0, 0)) → Calls Try.prog K (first.push (.agg #[.int .i64 x.1.1, .int .i64 (x.1.2 : Nat)]) ++ cap) W fun e W' => (∃ v, e = .returned v) ∧ I (pre ++ [x]) W' ∧ Kp W W' ∧ KeepsFrom w.heap.size W W' ∧ KeepD (fun k => k = w.heap.size) W W') :
    Calls Try.prog 107 #[.func (.func gf) #[] lb, .func (.func K) first cap] w fun e W' => e = .returned (.tuple #[]) ∧ ∃ ys, S ys ∧ I ys W' := by
  refine (callsIn_wide (n := 2)).1 ?_
  refine callsIn_of_wp_marks Try.func107 rfl trivial ?_ rfl
  simp only [Try.ntmps107, List.size_toArray, List.length_cons, List.length_nil, Nat.reduceAdd, Nat.reduceSub, Array.replicate_succ, Array.replicate_zero, List.push_toArray, List.append_toArray, List.nil_append, List.cons_append]
  have Hseq := Lib.hid hseq; clear hseq
  have HK := Lib.hid @hK; clear hK
  have HKa := Lib.hid @hKa; clear hKa
  have HIs := Lib.hid @hIs; clear hIs
  gi_wp2
  refine wpIn_rangeFunc_ownH rfl (by omega) (gf := gf) (lb := lb) rfl trivial eg Hseq.out hKt (fun W l o o' hl _ _ _ => hKb W l o' (by simp at hl; omega))
    ((Below.refl _ w).alloc (Nat.le_refl _) _) (fun _ => rfl)
    (fun pre W => I pre W ∧ W.heap[w.heap.size]? = some (.cells #[.func (.func K) first cap] 127 (0, 0)))
    (fun _ _ _ => False)
    (fun s A B row hs hg hr => ⟨hI s A B row hs.1 hg (fun r e => ⟨by have := (hr r e).1; simp at this; omega, (hr r e).2⟩), (hg.block _ (lt_of_block hs.2) (fun e => by have := (hr _ e.symm).1; simp at this; omega)).trans hs.2⟩)
    (fun _ _ _ _ _ hs _ _ => hs)
    ⟨hI.alloc _ h0, heap_alloc_new w _⟩
    (fun x a' W => ∃ Bx, w.heap.size < Bx ∧ W.heap[Bx]? = some (.cells #[.int .i64 x.1.1, .int .i64 (x.1.2 : Nat)] 113 (0, 0)) ∧
      a' = { tmps := #[.func (.func gf) #[] lb, .func (.func K) first cap, undef, .pointer (some ⟨w.heap.size, 0, none⟩), .pointer (some ⟨Bx, 0, none⟩), .func (.func gf) #[] lb, .agg #[.int .i64 x.1.1, .int .i64 (x.1.2 : Nat)], undef, undef, undef], defers := [] })
    (fun x a' s A B row hs hg hr => by
      obtain ⟨Bx, h1, h2, h3⟩ := hs
      refine ⟨Bx, h1, (hg.block _ (lt_of_block h2) (fun e => ?_)).trans h2, h3⟩
      obtain ⟨_, o, ho, hc⟩ := hr _ e.symm
      rw [h2] at ho
      cases ho
      cases hc) ?assign ?body ?done ?stop
  case assign =>
    rintro l pre x W K ⟨hi, hb⟩ hK
    have hsz := HIs.out _ _ hi
    gi_wp2
    refine hK _ _ ((KeepsOthers.alloc _ _).from _) (HKa.out _ _ hsz) ⟨hI.alloc _ hi, (Below.heap_alloc _ _ _ (lt_of_block hb)).trans hb⟩ ⟨W.heap.size, lt_of_block hb, heap_alloc_new W _, rfl⟩
  case body =>
    rintro l pre x a' W _ _ ⟨hi, hb⟩ ⟨Bx, hx1, hx2, rfl⟩ hN
    have hc : W.cell? ⟨w.heap.size, 0, none⟩ = some (.func (.func K) first cap) := cell_of_one hb
    have d0 : W.cell? ⟨Bx, 0, none⟩ = some (.int .i64 x.1.1) := by simp [World.cell?, hx2]
    have d1 : W.cell? ⟨Bx, 1, none⟩ = some (.int .i64 (x.1.2 : Nat)) := by simp [World.cell?, hx2]
    have Hb := Lib.hid hb; clear hb
    have Hx2 := Lib.hid hx2; clear hx2
    gi_wp2
    refine ⟨trivial, rfl, ((callsIn_wide.2 (HK.out pre x W hi hN Hb.out)).inRound l).mono ?_⟩
    rintro e W' ⟨⟨v, rfl⟩, hi', hkp, hkf, hkd⟩
    gi_wp2
    exact ⟨⟨hkf.size, fun k o hk => hkf.same k o (by simp at hk; omega)⟩, hkp, hi', (hkd _ rfl).trans Hb.out⟩
  case done =>
    rintro D ys W hD hS ⟨hi, _⟩ hK
    gi_wp2
    refine ⟨by simp, .inl ⟨_, _, rfl, run_takeDeferred hK, ?_⟩⟩
    exact ⟨_, results_none rfl _ _ _, rfl, ys, hS, hI.putObj _ hi (by simp at hD; omega) hK rfl⟩
  case stop =>
    rintro D c pre W _ _ h _
    exact h.elim
end Go.Proofs.Ytjnbnhnkjhnbkaa
