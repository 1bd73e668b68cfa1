/- block: the kinds of the reference -/
import Derived.Test.YtmkbpocibpjjaaaLO
namespace Go.Proofs.Ytmkbpocibpjjaaa
open Go.RowKit Go.Shelf

theorem kds_get {fs : List Bool} {k : Nat} (hk : k < fs.length) : (kds fs)[k]? = some (kd fs k) := by
  unfold kds; rw [List.getElem?_map, List.getElem?_range hk]; rfl
theorem kds_take {fs : List Bool} {k : Nat} (hk : k < fs.length) : (kds fs).take (k + 1) = (kds fs).take k ++ [kd fs k] := by
  rw [List.take_add_one, kds_get hk]; rfl
theorem kd_of {fs : List Bool} {k : Nat} {x p q : Bool} (hx : fs[k]? = some x) (hp : shI fs ((k : Int) - 1) = p) (hq : shI fs ((k : Int) + 1) = q) : kd fs k = kdOf x ((bif p then 1 else 0) + (bif q then 2 else 0)) := by
  unfold kd sdN
  rw [shI_at hx, hp, hq]
set_option maxRecDepth 100000 in
set_option maxHeartbeats 4000000 in
theorem rkinds_any (v : Value) (fs : List Bool) (w : World) (h : Bls w v fs) (hl : fs.length ≤ 64) : Calls Try.prog 46 #[v] w (IRes w (kds fs)) := by
  obtain ⟨a, cap, rfl⟩ := h.form
  have H := Lib.hid h
  obtain ⟨L, hL⟩ : ∃ L, fs.length = L := ⟨_, rfl⟩
  have HL := Lib.hid hL
  have HLk := Lib.hid (kds_length fs)
  rw [hL] at H hl HLk ⊢
  clear h hL
  go_enter Try.func46, Try.ntmps46
  go_wp2_with fail
  go_loopw [3, 10] (fun v i wr => ∃ k : Nat, k ≤ L ∧ i = .int .i64 k ∧ wr.ownsRow w.heap.size 3 1 v k (i64s ((kds fs).take k)) ∧ Upd NoB w wr) (fun _ i _ => L - (intOf i).toNat)
  case atStart => exact ⟨0, Nat.zero_le _, rfl, World.ownsRow_nil _ _ _ _, Upd.refl _ _⟩
  case round =>
    obtain ⟨k, hk, rfl, hown, hu⟩ := hrel
    obtain ⟨va, vc, rfl⟩ := row_form hown
    have HOw := Lib.hid hown; have HU := Lib.hid hu
    clear hown hu
    by_cases hlt : k < L
    · obtain ⟨x, hx⟩ : ∃ x, fs[k]? = some x := ⟨_, List.getElem?_eq_getElem (by rw [HL.out]; exact hlt)⟩
      have HT := Lib.hid (kds_take (fs := fs) (k := k) (by rw [HL.out]; exact hlt))
      have HX := Lib.hid (H.out.later HU.out)
      obtain ⟨b, off, rfl, c0⟩ := HX.out.cellAt hx
      have hb := HU.out.size
      rcases (show k = 0 ∨ ∃ m, k = m + 1 by cases k with | zero => exact .inl rfl | succ m => exact .inr ⟨m, rfl⟩) with hk0 | ⟨m, hkm⟩

      · have t3 : decide ((0 : Int) < (k : Int)) = false := decide_eq_false (by omega)
        have t3n : decide (0 < k) = false := decide_eq_false (by omega)
        have hP : shI fs ((k : Int) - 1) = false := shI_neg (by omega)
        clear hk0
        by_cases hn : k + 1 < L
        · obtain ⟨q, hq⟩ : ∃ q, fs[k + 1]? = some q := ⟨_, List.getElem?_eq_getElem (by rw [HL.out]; exact hn)⟩
          obtain ⟨b', off', e, c2⟩ := HX.out.cellAt hq
          cases e
          have hQ : shI fs (((k : Nat) : Int) + 1) = q := by rw [show ((k : Nat) : Int) + 1 = ((k + 1 : Nat) : Int) by omega]; exact shI_at hq
          have t2 : decide (((k : Nat) : Int) + 1 < (L : Int)) = true := decide_eq_true (by omega)
          have q2 : ((k : Nat) : Int) + 1 < (L : Int) := by omega
          cases x
          · cases q
            · have HK := Lib.hid (kd_of hx hP hQ)
              generalize (kds fs).take (k) = ys at *
              clear hx hP hQ hq
              go_wp2_with (at_builtin; refine wpList_push rfl (.tmp 36) (.tmp 37) rfl w.heap.size (.slice va (k) vc) (k) ys 0 rfl rfl HOw.out (by omega) hb ?_; intro v' w' hown' u'; have R' := Lib.hid hown'; have U' := Lib.hid u'; clear hown' u')
              go_roundw
              case rel => exact ⟨(k) + 1, by omega, by go_num, by rw [HT.out, show kd fs ((k)) = 0 from HK.out]; exact R'.out, upd_ge ((upd_ge' HU.out w.heap.size).trans U'.out (fun _ _ h => h))⟩
              case measure => simp [intOf]; omega
            · have HK := Lib.hid (kd_of hx hP hQ)
              generalize (kds fs).take (k) = ys at *
              clear hx hP hQ hq
              go_wp2_with (at_builtin; refine wpList_push rfl (.tmp 54) (.tmp 55) rfl w.heap.size (.slice va (k) vc) (k) ys 1 rfl rfl HOw.out (by omega) hb ?_; intro v' w' hown' u'; have R' := Lib.hid hown'; have U' := Lib.hid u'; clear hown' u')
              go_roundw
              case rel => exact ⟨(k) + 1, by omega, by go_num, by rw [HT.out, show kd fs ((k)) = 1 from HK.out]; exact R'.out, upd_ge ((upd_ge' HU.out w.heap.size).trans U'.out (fun _ _ h => h))⟩
              case measure => simp [intOf]; omega
          · cases q
            · have HK := Lib.hid (kd_of hx hP hQ)
              generalize (kds fs).take (k) = ys at *
              clear hx hP hQ hq
              go_wp2_with (at_builtin; refine wpList_push rfl (.tmp 41) (.tmp 42) rfl w.heap.size (.slice va (k) vc) (k) ys 2 rfl rfl HOw.out (by omega) hb ?_; intro v' w' hown' u'; have R' := Lib.hid hown'; have U' := Lib.hid u'; clear hown' u')
              go_roundw
              case rel => exact ⟨(k) + 1, by omega, by go_num, by rw [HT.out, show kd fs ((k)) = 2 from HK.out]; exact R'.out, upd_ge ((upd_ge' HU.out w.heap.size).trans U'.out (fun _ _ h => h))⟩
              case measure => simp [intOf]; omega
            · have HK := Lib.hid (kd_of hx hP hQ)
              generalize (kds fs).take (k) = ys at *
              clear hx hP hQ hq
              go_wp2_with (at_builtin; refine wpList_push rfl (.tmp 41) (.tmp 42) rfl w.heap.size (.slice va (k) vc) (k) ys 2 rfl rfl HOw.out (by omega) hb ?_; intro v' w' hown' u'; have R' := Lib.hid hown'; have U' := Lib.hid u'; clear hown' u')
              go_roundw
              case rel => exact ⟨(k) + 1, by omega, by go_num, by rw [HT.out, show kd fs ((k)) = 2 from HK.out]; exact R'.out, upd_ge ((upd_ge' HU.out w.heap.size).trans U'.out (fun _ _ h => h))⟩
              case measure => simp [intOf]; omega
        · have hQ : shI fs (((k : Nat) : Int) + 1) = false := shI_far (by rw [HL.out]; omega)
          have t2 : decide (((k : Nat) : Int) + 1 < (L : Int)) = false := decide_eq_false (by omega)
          cases x
          · have HK := Lib.hid (kd_of hx hP hQ)
            generalize (kds fs).take (k) = ys at *
            clear hx hP hQ
            go_wp2_with (at_builtin; refine wpList_push rfl (.tmp 36) (.tmp 37) rfl w.heap.size (.slice va (k) vc) (k) ys 0 rfl rfl HOw.out (by omega) hb ?_; intro v' w' hown' u'; have R' := Lib.hid hown'; have U' := Lib.hid u'; clear hown' u')
            go_roundw
            case rel => exact ⟨(k) + 1, by omega, by go_num, by rw [HT.out, show kd fs ((k)) = 0 from HK.out]; exact R'.out, upd_ge ((upd_ge' HU.out w.heap.size).trans U'.out (fun _ _ h => h))⟩
            case measure => simp [intOf]; omega
          · have HK := Lib.hid (kd_of hx hP hQ)
            generalize (kds fs).take (k) = ys at *
            clear hx hP hQ
            go_wp2_with (at_builtin; refine wpList_push rfl (.tmp 41) (.tmp 42) rfl w.heap.size (.slice va (k) vc) (k) ys 2 rfl rfl HOw.out (by omega) hb ?_; intro v' w' hown' u'; have R' := Lib.hid hown'; have U' := Lib.hid u'; clear hown' u')
            go_roundw
            case rel => exact ⟨(k) + 1, by omega, by go_num, by rw [HT.out, show kd fs ((k)) = 2 from HK.out]; exact R'.out, upd_ge ((upd_ge' HU.out w.heap.size).trans U'.out (fun _ _ h => h))⟩
            case measure => simp [intOf]; omega
      · obtain rfl := hkm
        obtain ⟨p, hp⟩ : ∃ p, fs[m]? = some p := ⟨_, List.getElem?_eq_getElem (by rw [HL.out]; omega)⟩
        obtain ⟨b', off', e, c1⟩ := HX.out.cellAt hp
        cases e
        have hP : shI fs (((m + 1 : Nat) : Int) - 1) = p := by rw [show ((m + 1 : Nat) : Int) - 1 = (m : Int) by omega]; exact shI_at hp
        have es : ((m + 1 : Nat) : Int) - 1 = (m : Int) := by omega
        have q0 : (m : Int) < (L : Int) := by omega
        by_cases hn : m + 1 + 1 < L
        · obtain ⟨q, hq⟩ : ∃ q, fs[m + 1 + 1]? = some q := ⟨_, List.getElem?_eq_getElem (by rw [HL.out]; exact hn)⟩
          obtain ⟨b', off', e, c2⟩ := HX.out.cellAt hq
          cases e
          have hQ : shI fs (((m + 1 : Nat) : Int) + 1) = q := by rw [show ((m + 1 : Nat) : Int) + 1 = ((m + 1 + 1 : Nat) : Int) by omega]; exact shI_at hq
          have t2 : decide (((m + 1 : Nat) : Int) + 1 < (L : Int)) = true := decide_eq_true (by omega)
          have q2 : ((m + 1 : Nat) : Int) + 1 < (L : Int) := by omega
          cases x
          · cases p
            · cases q
              · have HK := Lib.hid (kd_of hx hP hQ)
                generalize (kds fs).take (m + 1) = ys at *
                clear hx hP hQ hp hq
                go_wp2_with (at_builtin; refine wpList_push rfl (.tmp 36) (.tmp 37) rfl w.heap.size (.slice va (m + 1) vc) (m + 1) ys 0 rfl rfl HOw.out (by omega) hb ?_; intro v' w' hown' u'; have R' := Lib.hid hown'; have U' := Lib.hid u'; clear hown' u')
                go_roundw
                case rel => exact ⟨(m + 1) + 1, by omega, by go_num, by rw [HT.out, show kd fs ((m + 1)) = 0 from HK.out]; exact R'.out, upd_ge ((upd_ge' HU.out w.heap.size).trans U'.out (fun _ _ h => h))⟩
                case measure => simp [intOf]; omega
              · have HK := Lib.hid (kd_of hx hP hQ)
                generalize (kds fs).take (m + 1) = ys at *
                clear hx hP hQ hp hq
                go_wp2_with (at_builtin; refine wpList_push rfl (.tmp 54) (.tmp 55) rfl w.heap.size (.slice va (m + 1) vc) (m + 1) ys 1 rfl rfl HOw.out (by omega) hb ?_; intro v' w' hown' u'; have R' := Lib.hid hown'; have U' := Lib.hid u'; clear hown' u')
                go_roundw
                case rel => exact ⟨(m + 1) + 1, by omega, by go_num, by rw [HT.out, show kd fs ((m + 1)) = 1 from HK.out]; exact R'.out, upd_ge ((upd_ge' HU.out w.heap.size).trans U'.out (fun _ _ h => h))⟩
                case measure => simp [intOf]; omega
            · cases q
              · have HK := Lib.hid (kd_of hx hP hQ)
                generalize (kds fs).take (m + 1) = ys at *
                clear hx hP hQ hp hq
                go_wp2_with (at_builtin; refine wpList_push rfl (.tmp 59) (.tmp 60) rfl w.heap.size (.slice va (m + 1) vc) (m + 1) ys 3 rfl rfl HOw.out (by omega) hb ?_; intro v' w' hown' u'; have R' := Lib.hid hown'; have U' := Lib.hid u'; clear hown' u')
                go_roundw
                case rel => exact ⟨(m + 1) + 1, by omega, by go_num, by rw [HT.out, show kd fs ((m + 1)) = 3 from HK.out]; exact R'.out, upd_ge ((upd_ge' HU.out w.heap.size).trans U'.out (fun _ _ h => h))⟩
                case measure => simp [intOf]; omega
              · have HK := Lib.hid (kd_of hx hP hQ)
                generalize (kds fs).take (m + 1) = ys at *
                clear hx hP hQ hp hq
                go_wp2_with (at_builtin; refine wpList_push rfl (.tmp 49) (.tmp 50) rfl w.heap.size (.slice va (m + 1) vc) (m + 1) ys 4 rfl rfl HOw.out (by omega) hb ?_; intro v' w' hown' u'; have R' := Lib.hid hown'; have U' := Lib.hid u'; clear hown' u')
                go_roundw
                case rel => exact ⟨(m + 1) + 1, by omega, by go_num, by rw [HT.out, show kd fs ((m + 1)) = 4 from HK.out]; exact R'.out, upd_ge ((upd_ge' HU.out w.heap.size).trans U'.out (fun _ _ h => h))⟩
                case measure => simp [intOf]; omega
          · cases p
            · cases q
              · have HK := Lib.hid (kd_of hx hP hQ)
                generalize (kds fs).take (m + 1) = ys at *
                clear hx hP hQ hp hq
                go_wp2_with (at_builtin; refine wpList_push rfl (.tmp 41) (.tmp 42) rfl w.heap.size (.slice va (m + 1) vc) (m + 1) ys 2 rfl rfl HOw.out (by omega) hb ?_; intro v' w' hown' u'; have R' := Lib.hid hown'; have U' := Lib.hid u'; clear hown' u')
                go_roundw
                case rel => exact ⟨(m + 1) + 1, by omega, by go_num, by rw [HT.out, show kd fs ((m + 1)) = 2 from HK.out]; exact R'.out, upd_ge ((upd_ge' HU.out w.heap.size).trans U'.out (fun _ _ h => h))⟩
                case measure => simp [intOf]; omega
              · have HK := Lib.hid (kd_of hx hP hQ)
                generalize (kds fs).take (m + 1) = ys at *
                clear hx hP hQ hp hq
                go_wp2_with (at_builtin; refine wpList_push rfl (.tmp 41) (.tmp 42) rfl w.heap.size (.slice va (m + 1) vc) (m + 1) ys 2 rfl rfl HOw.out (by omega) hb ?_; intro v' w' hown' u'; have R' := Lib.hid hown'; have U' := Lib.hid u'; clear hown' u')
                go_roundw
                case rel => exact ⟨(m + 1) + 1, by omega, by go_num, by rw [HT.out, show kd fs ((m + 1)) = 2 from HK.out]; exact R'.out, upd_ge ((upd_ge' HU.out w.heap.size).trans U'.out (fun _ _ h => h))⟩
                case measure => simp [intOf]; omega
            · cases q
              · have HK := Lib.hid (kd_of hx hP hQ)
                generalize (kds fs).take (m + 1) = ys at *
                clear hx hP hQ hp hq
                go_wp2_with (at_builtin; refine wpList_push rfl (.tmp 41) (.tmp 42) rfl w.heap.size (.slice va (m + 1) vc) (m + 1) ys 2 rfl rfl HOw.out (by omega) hb ?_; intro v' w' hown' u'; have R' := Lib.hid hown'; have U' := Lib.hid u'; clear hown' u')
                go_roundw
                case rel => exact ⟨(m + 1) + 1, by omega, by go_num, by rw [HT.out, show kd fs ((m + 1)) = 2 from HK.out]; exact R'.out, upd_ge ((upd_ge' HU.out w.heap.size).trans U'.out (fun _ _ h => h))⟩
                case measure => simp [intOf]; omega
              · have HK := Lib.hid (kd_of hx hP hQ)
                generalize (kds fs).take (m + 1) = ys at *
                clear hx hP hQ hp hq
                go_wp2_with (at_builtin; refine wpList_push rfl (.tmp 41) (.tmp 42) rfl w.heap.size (.slice va (m + 1) vc) (m + 1) ys 2 rfl rfl HOw.out (by omega) hb ?_; intro v' w' hown' u'; have R' := Lib.hid hown'; have U' := Lib.hid u'; clear hown' u')
                go_roundw
                case rel => exact ⟨(m + 1) + 1, by omega, by go_num, by rw [HT.out, show kd fs ((m + 1)) = 2 from HK.out]; exact R'.out, upd_ge ((upd_ge' HU.out w.heap.size).trans U'.out (fun _ _ h => h))⟩
                case measure => simp [intOf]; omega
        · have hQ : shI fs (((m + 1 : Nat) : Int) + 1) = false := shI_far (by rw [HL.out]; omega)
          have t2 : decide (((m + 1 : Nat) : Int) + 1 < (L : Int)) = false := decide_eq_false (by omega)
          cases x
          · cases p
            · have HK := Lib.hid (kd_of hx hP hQ)
              generalize (kds fs).take (m + 1) = ys at *
              clear hx hP hQ hp
              go_wp2_with (at_builtin; refine wpList_push rfl (.tmp 36) (.tmp 37) rfl w.heap.size (.slice va (m + 1) vc) (m + 1) ys 0 rfl rfl HOw.out (by omega) hb ?_; intro v' w' hown' u'; have R' := Lib.hid hown'; have U' := Lib.hid u'; clear hown' u')
              go_roundw
              case rel => exact ⟨(m + 1) + 1, by omega, by go_num, by rw [HT.out, show kd fs ((m + 1)) = 0 from HK.out]; exact R'.out, upd_ge ((upd_ge' HU.out w.heap.size).trans U'.out (fun _ _ h => h))⟩
              case measure => simp [intOf]; omega
            · have HK := Lib.hid (kd_of hx hP hQ)
              generalize (kds fs).take (m + 1) = ys at *
              clear hx hP hQ hp
              go_wp2_with (at_builtin; refine wpList_push rfl (.tmp 59) (.tmp 60) rfl w.heap.size (.slice va (m + 1) vc) (m + 1) ys 3 rfl rfl HOw.out (by omega) hb ?_; intro v' w' hown' u'; have R' := Lib.hid hown'; have U' := Lib.hid u'; clear hown' u')
              go_roundw
              case rel => exact ⟨(m + 1) + 1, by omega, by go_num, by rw [HT.out, show kd fs ((m + 1)) = 3 from HK.out]; exact R'.out, upd_ge ((upd_ge' HU.out w.heap.size).trans U'.out (fun _ _ h => h))⟩
              case measure => simp [intOf]; omega
          · cases p
            · have HK := Lib.hid (kd_of hx hP hQ)
              generalize (kds fs).take (m + 1) = ys at *
              clear hx hP hQ hp
              go_wp2_with (at_builtin; refine wpList_push rfl (.tmp 41) (.tmp 42) rfl w.heap.size (.slice va (m + 1) vc) (m + 1) ys 2 rfl rfl HOw.out (by omega) hb ?_; intro v' w' hown' u'; have R' := Lib.hid hown'; have U' := Lib.hid u'; clear hown' u')
              go_roundw
              case rel => exact ⟨(m + 1) + 1, by omega, by go_num, by rw [HT.out, show kd fs ((m + 1)) = 2 from HK.out]; exact R'.out, upd_ge ((upd_ge' HU.out w.heap.size).trans U'.out (fun _ _ h => h))⟩
              case measure => simp [intOf]; omega
            · have HK := Lib.hid (kd_of hx hP hQ)
              generalize (kds fs).take (m + 1) = ys at *
              clear hx hP hQ hp
              go_wp2_with (at_builtin; refine wpList_push rfl (.tmp 41) (.tmp 42) rfl w.heap.size (.slice va (m + 1) vc) (m + 1) ys 2 rfl rfl HOw.out (by omega) hb ?_; intro v' w' hown' u'; have R' := Lib.hid hown'; have U' := Lib.hid u'; clear hown' u')
              go_roundw
              case rel => exact ⟨(m + 1) + 1, by omega, by go_num, by rw [HT.out, show kd fs ((m + 1)) = 2 from HK.out]; exact R'.out, upd_ge ((upd_ge' HU.out w.heap.size).trans U'.out (fun _ _ h => h))⟩
              case measure => simp [intOf]; omega
    · obtain rfl : k = L := by omega
      have HT := Lib.hid (show (kds fs).take k = kds fs from List.take_of_length_le (by rw [HLk.out]; exact Nat.le_refl _))
      go_wp2_with fail
      go_ret
      exact ⟨_, rfl, by rw [HLk.out, ← HT.out]; exact HOw.out, HU.out⟩
end Go.Proofs.Ytmkbpocibpjjaaa
