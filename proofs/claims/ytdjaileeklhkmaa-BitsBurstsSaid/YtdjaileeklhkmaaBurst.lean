/- BitsBursts, as the law has it: the walk -/
import Derived.Test.YtdjaileeklhkmaaBurstL
import Derived.Deep.Cut
import Derived.Deep.AppendLies
namespace Go.Proofs.Ytdjaileeklhkmaa
open Go.RowKit Go.Shelf

theorem bytes_cells {w : World} {sb so n c : Nat} {zs : List Nat} (h : Bytes w (.slice (some ⟨sb, so, none⟩) n c) zs) : ∀ j u, (u8s zs)[j]? = some u → w.cell? ((⟨sb, so, none⟩ : Addr).add j) = some u := by
  obtain ⟨_, a, cap, e, _, hc⟩ := h
  injection e with e1 e2 e3
  intro j u hu
  have hj : j < zs.length := by
    rw [u8s_get] at hu
    by_cases hj : j < zs.length
    · exact hj
    · rw [if_neg hj] at hu; cases hu
  rcases hc with hc | ⟨b, off, hb, hc⟩
  · rw [hc] at hj; simp at hj
  · rw [← e1] at hb
    cases hb
    rw [u8s_get, if_pos hj] at hu
    rw [addr_add, hc j hj, hu]
theorem upd_grown_new {w w1 w2 : World} {row : Option Nat} (u : Upd NoB w w1) (hg : w1.grownBy w2 row) (h : ∀ k, row = some k → w.heap.size ≤ k) : Upd NoB w w2 := u.grown hg (fun k hk hlt => by have := h k hk; omega)
theorem u8s_append (xs ys : List Nat) : u8s (xs ++ ys) = u8s xs ++ u8s ys := by simp [u8s]
theorem wpList_taken {P : Program} {ops : Array Oper} {rest : List Oper} {o : Oper} {a : Act} {w : World} {Q : Exit → Act → World → Prop} (hw : Region.wanted o (yielded ops a.tmps) = true)
    (h : ∀ K : Act → World → Prop, (∀ a w, wpList P ops Q rest a w → K a w) → o.wp P a w K Q) : wpList P ops Q (o :: rest) a w :=
  wpList_step fun K hK => by rw [if_pos hw]; exact h K hK
theorem wpList_append_g {P : Program} {ops : Array Oper} {rest : List Oper} {o : Oper} {a : Act} {w : World} {Q : Exit → Act → World → Prop} (hw : Region.wanted o (yielded ops a.tmps) = true) (s x : Operand) (t : TypeId)
    (ho : o.op = .call { callee := .builtin .append, args := #[s, x], argTypes := #[t, t] })
    (base : Nat) (e : TypeId) (i : TypeInfo) (z : Value) (size bytes : Nat) (ht : P.underlying t = some (.slice e)) (hi : P.info? e = some i) (hz : i.zero = some z)
    (hsize : i.size = size) (hby : i.bytes = bytes) (hzs : z.cells.size = size) (hsz : 0 < size)
    (v : Value) (n : Nat) (xs : List Value) (hs : a.eval s = v) (hown : w.ownsRow base e size v n xs)
    (ad : Addr) (m c : Nat) (news : List Value) (hx : a.eval x = .slice (some ad) m c) (hl : news.length = m * size) (hnews : ∀ j u, news[j]? = some u → w.cell? (ad.add j) = some u) (h1 : ∀ u ∈ news, u.oneCell' = true)
    (hm : 0 < m) (h63 : n + m ≤ maxLen) (hbytes : (n + m) * bytes ≤ 140737488355328) (hbase : base ≤ w.heap.size)
    (h : ∀ g cap w', w'.ownsRow base e size (.slice (some ⟨g, 0, none⟩) (n + m) cap) (n + m) (xs ++ news) → w.grownBy w' v.ownBlock → (v.ownBlock = some g ∨ g = w.heap.size) → g < w'.heap.size → wpList P ops Q rest (a.put o.dst (.slice (some ⟨g, 0, none⟩) (n + m) cap)) w') : wpList P ops Q (o :: rest) a w :=
  wpList_taken hw fun _ hK => wp_append_lies w s x t ho base e i z size bytes ht hi hz hsize hby hzs hsz v n xs hs hown ad m c news hx hl hnews h1 hm h63 hbytes hbase _ rfl fun g cap w' h2 h3 h4 h5 => hK _ _ (h g cap w' h2 h3 h4 h5)
set_option maxRecDepth 100000 in
set_option maxHeartbeats 8000000 in
theorem bursts_any (a : Option Addr) (cap : Nat) (zs : List Nat) (n : Int) (M : Nat) (w : World) (h : Bytes w (.slice a zs.length cap) zs) (hbl : zs.length ≤ 140737488355328) (hn0 : -9223372036854775808 ≤ n) (hn1 : n ≤ 9223372036854775807) (hM : M < 4294967296) :
    Calls Try.prog 8 #[.slice a zs.length cap, .int .i64 n, .int .u32 M] w fun e w' => e = .returned (.bool true) ∧ Upd NoB w w' := by
  obtain ⟨Z, hZ⟩ : ∃ Z, Z = zs.length := ⟨_, rfl⟩
  rw [← hZ] at h hbl ⊢
  have HB := Lib.hid h; have HZ := Lib.hid hZ
  clear h hZ
  by_cases hbig : 3000 < Z
  · have t1 : decide ((3000 : Int) < (Z : Int)) = true := decide_eq_true (by omega)
    go_enter Try.func8, Try.ntmps8
    go_wp2_with fail
    refine (awake_any w).mono ?_
    rintro e w2 ⟨rfl, u2⟩
    have U2 := Lib.hid u2; clear u2
    go_wp2_with fail
    go_ret
    exact ⟨rfl, U2.out⟩
  have t1 : decide ((3000 : Int) < (Z : Int)) = false := decide_eq_false (by omega)
  by_cases hz : Z = 0
  · have t2 : ((Z : Int) == 0) = true := by simp; omega
    clear hz
    go_enter Try.func8, Try.ntmps8
    go_wp2_with fail
    refine (awake_any w).mono ?_
    rintro e w2 ⟨rfl, u2⟩
    have U2 := Lib.hid u2; clear u2
    go_wp2_with fail
    go_ret
    exact ⟨rfl, U2.out⟩
  have t2 : ((Z : Int) == 0) = false := by simp; omega
  have hz1 : 0 < Z := by omega
  have hz0 : zs ≠ [] := by rintro rfl; have := HZ.out; simp at this; omega
  have Hz0 := Lib.hid hz0
  obtain ⟨sb, so, hab⟩ : ∃ sb so, a = some ⟨sb, so, none⟩ := by
    obtain ⟨_, a', cap', he, _, hc⟩ := HB.out
    injection he with f1 f2 f3
    rcases hc with hc | ⟨b, off, hb, _⟩
    · exact absurd hc hz0
    · exact ⟨b, off, by rw [f1, hb]⟩
  have Hab := Lib.hid hab
  clear hab
  have Hone := Lib.hid (u8s_one zs)
  have Hnl := Lib.hid (show (u8s zs).length = Z * 1 by rw [u8s_length, HZ.out]; omega)
  have C3 := Lib.hid (show 0 + Z ≤ maxLen by unfold maxLen; omega)
  have C4 := Lib.hid (show (0 + Z) * 1 ≤ 140737488355328 by omega)
  have Hz1 := Lib.hid hz1
  obtain ⟨p, hp⟩ : ∃ p : Nat, wrap64 ((IntKind.u64.wrap n).tmod (8 * (Z : Int))) = (p : Int) ∧ p < 8 * Z := by
    have hu : 0 ≤ IntKind.u64.wrap n ∧ IntKind.u64.wrap n < 18446744073709551616 := by
      show 0 ≤ n % 18446744073709551616 ∧ n % 18446744073709551616 < 18446744073709551616
      omega
    generalize IntKind.u64.wrap n = x at hu
    have h8 : (0 : Int) < 8 * (Z : Int) := by omega
    have ht : x.tmod (8 * (Z : Int)) = x % (8 * (Z : Int)) := Int.tmod_eq_emod_of_nonneg hu.1
    have h1 := Int.emod_nonneg x (show (8 * (Z : Int)) ≠ 0 by omega)
    have h2 := Int.emod_lt_of_pos x h8
    refine ⟨(x % (8 * (Z : Int))).toNat, ?_, by omega⟩
    rw [ht]
    have : wrap64 (x % (8 * (Z : Int))) = x % (8 * (Z : Int)) := by unfold wrap64; omega
    rw [this]; omega
  have hm : ((M : Int) % 65536) = ((M % 65536 : Nat) : Int) := by omega
  have Hp := Lib.hid hp; have Hm := Lib.hid hm
  clear hz hz0 hp hm
  go_enter Try.func8, Try.ntmps8
  go_wp2_with fail
  rw [Hp.out.1, Hm.out]
  refine (by have := flipped_any a cap zs p 16 (M % 65536) false w (by rw [← HZ.out]; exact HB.out) Hz0.out (by rw [← HZ.out]; omega) (by rw [← HZ.out]; exact Hp.out.2) (by omega) (by omega); rw [← HZ.out] at this; exact this : Calls Try.prog 43 #[.slice a Z cap, .int .i64 p, .int .u32 (M % 65536 : Nat), .bool false] w _).mono ?_
  rintro e w2 ⟨xv, xs, rfl, r2, u2, l2, b2⟩
  have X2 := Lib.hid r2.bytes; have U2 := Lib.hid u2; have L2 := Lib.hid l2; have F2 := Lib.hid b2
  have HB2 := Lib.hid (bytes_later HB.out u2)
  clear r2 u2 l2 b2
  go_wp2_with fail
  refine (by have := flipped_any a cap zs p 32 M true w2 (by rw [← HZ.out]; exact HB2.out) Hz0.out (by rw [← HZ.out]; omega) (by rw [← HZ.out]; exact Hp.out.2) (by omega) (by omega); rw [← HZ.out] at this; exact this : Calls Try.prog 43 #[.slice a Z cap, .int .i64 p, .int .u32 (M : Nat), .bool true] w2 _).mono ?_
  rintro e w3 ⟨yv, ys, rfl, r3, u3, l3, b3⟩
  have Y3 := Lib.hid r3.bytes; have U3 := Lib.hid (U2.out.trans u3 (fun k _ h => h)); have L3 := Lib.hid l3; have F3 := Lib.hid b3
  have HB3 := Lib.hid (bytes_later HB2.out u3); have X3 := Lib.hid (bytes_later X2.out u3)
  clear r3 u3 l3 b3
  go_wp2_with fail
  refine (crc16_any _ zs w3 HB3.out (by rw [← HZ.out]; omega)).mono ?_
  rintro e w4 ⟨rfl, u4⟩
  obtain ⟨S, hS⟩ : ∃ S, S = (bitsOf zs 0 (8 * zs.length)).foldl c16 65535 := ⟨_, rfl⟩
  rw [← hS]
  have hS1 : S < 65536 := by rw [hS]; exact fold16_lt _ _ (by decide)
  have HS := Lib.hid hS
  have HB4 := Lib.hid (bytes_later HB3.out u4); have X4 := Lib.hid (bytes_later X3.out u4); have Y4 := Lib.hid (bytes_later Y3.out u4); have U4 := Lib.hid (U3.out.trans u4 (fun k _ h => h))
  clear hS u4
  have ht16 : xs ≠ zs → (((bitsOf xs 0 (8 * xs.length)).foldl c16 65535 : Nat) : Int) ≠ (S : Int) := fun hne e => hne (bursts16 (by rw [L2.out]; exact HZ.out) HB4.out.1 X4.out.1 F2.out (by rw [← HS.out]; exact Int.ofNat.inj e))
  have ht32 : ys ≠ zs → (((lowOf ys).foldl c32 4294967295 ^^^ 4294967295 : Nat) : Int) ≠ (((lowOf zs).foldl c32 4294967295 ^^^ 4294967295 : Nat) : Int) := fun hne e => hne (bursts32 (by rw [L3.out]; exact HZ.out) HB4.out.1 Y4.out.1 F3.out (Int.ofNat.inj e))
  have Ht16 := Lib.hid ht16; have Ht32 := Lib.hid ht32
  clear ht16 ht32
  have hxl : xs.length ≤ 1099511627776 := by rw [L2.out]; omega
  have hyl : ys.length ≤ 1099511627776 := by rw [L3.out]; omega
  have Hxl := Lib.hid hxl; have Hyl := Lib.hid hyl
  clear hxl hyl
  go_wp2_with fail
  refine (same_any xv _ xs zs w4 X4.out HB4.out Hxl.out).mono ?_
  rintro e w5 ⟨rfl, n5, rfl⟩
  have HB5 := Lib.hid (bytes_later HB4.out (upd_drewN (Upd.refl NoB w4) n5)); have X5 := Lib.hid (bytes_later X4.out (upd_drewN (Upd.refl NoB w4) n5)); have Y5 := Lib.hid (bytes_later Y4.out (upd_drewN (Upd.refl NoB w4) n5)); have U5 := Lib.hid (upd_drewN U4.out n5)
  clear HB4 X4 Y4 U4
  generalize w4.drewN n5 = w5 at *
  cases hs : sameB xs zs
  case' false =>
    have hne : xs ≠ zs := fun e => by rw [e, sameB_self] at hs; cases hs
    have t3 := Ht16.out hne
    clear hs hne
    go_wp2_with fail
    refine (crc16_any _ xs w5 X5.out Hxl.out).mono ?_
    rintro e w6 ⟨rfl, u6⟩
    generalize ((bitsOf xs 0 (8 * xs.length)).foldl c16 65535 : Nat) = S2 at *
    have t4 : ((S2 : Int) == (S : Int)) = false := beq_eq_false_iff_ne.2 t3
    clear t3
    have HB6 := Lib.hid (bytes_later HB5.out u6); have Y6 := Lib.hid (bytes_later Y5.out u6); have U6 := Lib.hid (U5.out.trans u6 (fun k _ h => h))
    clear u6
    go_wp2_with fail
  case' true =>
    clear hs
    have HB6 := HB5; have Y6 := Y5; have U6 := U5
    go_wp2_with fail
  all_goals
    clear HB5 Y5 X5 U5
    refine (same_any yv _ ys zs _ Y6.out HB6.out Hyl.out).mono ?_
    rintro e w7 ⟨rfl, n7, rfl⟩
    have HB7 := Lib.hid (bytes_later HB6.out (upd_drewN (Upd.refl NoB _) n7)); have Y7 := Lib.hid (bytes_later Y6.out (upd_drewN (Upd.refl NoB _) n7)); have U7 := Lib.hid (upd_drewN U6.out n7)
    clear HB6 Y6 U6
    generalize World.drewN _ n7 = w7 at *
    cases hs : sameB ys zs
    case' false =>
      have hne : ys ≠ zs := fun e => by rw [e, sameB_self] at hs; cases hs
      have t5 := Ht32.out hne
      clear hs hne
      go_wp2_with fail
      refine (crc32_any _ ys w7 Y7.out Hyl.out).mono ?_
      rintro e w8 ⟨rfl, u8⟩
      have HB8 := Lib.hid (bytes_later HB7.out u8); have U8 := Lib.hid (U7.out.trans u8 (fun k _ h => h))
      clear u8 HB7 U7
      go_wp2_with fail
      refine (crc32_any _ zs w8 HB8.out (by rw [← HZ.out]; omega)).mono ?_
      rintro e w9 ⟨rfl, u9⟩
      have HB9 := Lib.hid (bytes_later HB8.out u9); have U9 := Lib.hid (U8.out.trans u9 (fun k _ h => h))
      clear u9 HB8 U8
      generalize ((lowOf ys).foldl c32 4294967295 ^^^ 4294967295 : Nat) = S3 at *
      generalize ((lowOf zs).foldl c32 4294967295 ^^^ 4294967295 : Nat) = S4 at *
      have t6 : ((S3 : Int) == (S4 : Int)) = false := beq_eq_false_iff_ne.2 t5
      clear t5
      go_upto_region 8 with (fail)
    case' true =>
      clear hs
      have HB9 := HB7; have U9 := U7
      go_upto_region 8 with (fail)
    all_goals
      have t7 : decide ((S : Int) < 65536) = true := decide_eq_true (by omega)
      have HS1 := Lib.hid hS1
      have hab := Hab.out
      subst hab
      clear hS1
      obtain ⟨i0, hi, hi0, hi1, hi2⟩ := info_parts Try.info5
      go_wp2_with (at_builtin; refine wpList_append_g (by simp [Region.wanted, yielded]) _ _ 27 (by rfl) 0 5 i0 (.int .u8 0) 1 1 Try.underlying27 hi hi0 hi1 hi2 (by rfl) (by decide) _ 0 [] (by rfl) (by exact World.ownsRow_lit (base := 0) (size := 1) (e := 5) _ #[] 0 (Nat.zero_le _) (Nat.zero_le _) rfl) ⟨sb, so, none⟩ Z cap (u8s zs) (by rfl) Hnl.out (by exact bytes_cells (bytes_later HB9.out ((Upd.refl NoB _).alloc _))) Hone.out Hz1.out C3.out C4.out (Nat.zero_le _) ?_)
      intro g1 c1 w10 hown1 hgr1 hat1 hlt1
      have hg0 : w.heap.size ≤ g1 := by
        have hs9 := U9.out.size
        rcases hat1 with h | h
        · simp [Value.ownBlock] at h; omega
        · first | omega | (simp at h; omega)
      have Hg0 := Lib.hid hg0
      clear hg0
      have U10 := Lib.hid (upd_grown_new (U9.out.alloc _) hgr1 (fun k hk => by have := U9.out.size; simp [Value.ownBlock] at hk; omega))
      try simp only [Nat.zero_add, List.nil_append] at hown1 ⊢
      clear hgr1 hat1 hlt1
      obtain ⟨hi8, hh8⟩ : ∃ hi8, hi8 = S / 256 := ⟨_, rfl⟩
      obtain ⟨lo8, hl8⟩ : ∃ lo8, lo8 = S % 256 := ⟨_, rfl⟩
      have k3 : (S : Int) / 256 = (hi8 : Int) := by omega
      have k4 : (S : Int) % 256 = (lo8 : Int) := by omega
      have k5 : (hi8 : Int) % 256 = (hi8 : Int) := by have := HS1.out; omega
      have k6 : (lo8 : Int) % 256 = (lo8 : Int) := by omega
      have Hh8 := Lib.hid (show hi8 ≤ 255 by have := HS1.out; omega)
      have Hl8 := Lib.hid (show lo8 ≤ 255 by omega)
      have e8 := own_sum zs S HS.out HS1.out
      rw [← hh8, ← hl8] at e8
      have E8 := Lib.hid e8
      have C5 := Lib.hid (show Z + 2 ≤ maxLen by unfold maxLen; omega)
      have C6 := Lib.hid (show (Z + 2) * 1 ≤ 140737488355328 by omega)
      have hrow2 : (w10.alloc (.cells #[.int .u8 hi8, .int .u8 lo8] 5)).ownsRow 0 5 1 (.slice (some ⟨g1, 0, none⟩) Z c1) Z (u8s zs) := ((Upd.refl NoB w10).alloc _).row hown1 (fun k _ => noB k)
      have Hrow2 := Lib.hid hrow2
      have Hg1 := Lib.hid (hown1.lt g1 rfl).2
      have hnw : ∀ k, (Value.slice (some ⟨g1, 0, none⟩) Z c1).ownBlock = some k → w.heap.size ≤ k := fun k hk => by
        have h0 : g1 = k := by simpa [Value.ownBlock] using hk
        subst h0
        exact Hg0.out
      have Hnw := Lib.hid hnw
      clear hh8 hl8 e8 hown1 hrow2 hnw
      go_wp2_with (at_builtin; refine wpList_append_g (by simp [Region.wanted, yielded]) _ _ 27 (by rfl) 0 5 i0 (.int .u8 0) 1 1 Try.underlying27 hi hi0 hi1 hi2 (by rfl) (by decide) _ Z (u8s zs) (by rfl) (by exact Hrow2.out) ⟨w10.heap.size, 0, none⟩ 2 2 (u8s [hi8, lo8]) (by rfl) (by rfl) (by exact World.news_of_block (heap_alloc_new w10 _)) (u8s_one _) (by decide) C5.out C6.out (Nat.zero_le _) ?_)
      intro g2 c2 w11 hown2 hgr2 hat2 hlt2
      have U11 := Lib.hid (upd_grown_new (U10.out.alloc _) hgr2 Hnw.out)
      have r11 : Row8 w11 (.slice (some ⟨g2, 0, none⟩) (Z + 2) c2) (zs ++ [hi8, lo8]) := by
        refine ⟨?_, fun j => all255 (fun y hy => ?_) j⟩
        · rw [List.length_append, ← HZ.out, u8s_append]; exact hown2
        · rcases List.mem_append.1 hy with h | h
          · obtain ⟨i2, hi2'⟩ := List.getElem?_of_mem h
            have := HB.out.1 i2
            rw [List.getD_eq_getElem?_getD, hi2'] at this; exact this
          · have := Hh8.out; have := Hl8.out
            simp at h; omega
      have B11 := Lib.hid r11.bytes
      have Hlz := Lib.hid (show (zs ++ [hi8, lo8]).length ≤ 1099511627776 by rw [List.length_append, ← HZ.out]; simp; omega)
      clear hown2 hgr2 hat2 hlt2 r11 Hrow2 Hnw hi hi0 hi1 hi2
      go_wp2_with fail
      refine (crc16_any _ (zs ++ [hi8, lo8]) w11 B11.out Hlz.out).mono ?_
      rintro e w12 ⟨rfl, u12⟩
      rw [E8.out]
      have U12 := Lib.hid (U11.out.then u12)
      clear u12
      go_wp2_with fail
      refine (awake_any w12).mono ?_
      rintro e w13 ⟨rfl, u13⟩
      have U13 := Lib.hid (U12.out.then u13)
      clear u13
      go_wp2_with fail
      go_ret
      exact ⟨rfl, U13.out⟩
end Go.Proofs.Ytdjaileeklhkmaa
