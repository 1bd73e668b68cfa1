/- The circle: tables of the plain mathematics, and what the kernel reckons of them. -/
namespace Go.Proofs.YtpmhioaoniijbaaDoor
def pc (i : Nat) : Nat := [1518500250, 1984016189, 2106220352, 2137142927, 2144896910, 2146836866, 2147321946, 2147443222, 2147473542, 2147481121, 2147483016, 2147483490].getD i 0
def ps (i : Nat) : Nat := [1518500250, 821806413, 418953276, 210490206, 105372028, 52701887, 26352928, 13176712, 6588387, 3294197, 1647099, 823550].getD i 0
def wnx (x y c s : Nat) : Nat × Nat := ((x * c - y * s + 1073741824) / 2147483648, (x * s + y * c + 1073741824) / 2147483648)
def wst (q : Nat) : Nat → Nat × Nat
  | 0 => (2147483648, 0)
  | i + 1 => if q / 2 ^ (11 - i) % 2 = 1 then wnx (wst q i).1 (wst q i).2 (pc i) (ps i) else wst q i
def allB (f : Nat → Bool) : Nat → Bool
  | 0 => true
  | n + 1 => f n && allB f n
def ser (x : Nat) : Nat → Nat → Nat → Nat
  | 0, _, _ => 0
  | f + 1, t, k => if t = 0 then 0 else t - ser x f (t * x / 1152921504606846976 * x / 1152921504606846976 / ((k + 1) * (k + 2))) (k + 2)
def ang (i : Nat) : Nat := 905502432259640355 * i / 4096
def sinS (i : Nat) : Nat := ser (ang i) 62 (ang i) 1
def cosS (i : Nat) : Nat := ser (ang i) 62 1152921504606846976 0
def sinR (r : Nat) : Nat := (2 * (wst r 12).2 + 131072) / 262144
def cosR (r : Nat) : Nat := (2 * (wst r 12).1 + 131072) / 262144
def nearB (v n : Nat) : Bool := Nat.beq ((v + 35184372088832) / 70368744177664) n && Nat.beq ((v + 35184372088831) / 70368744177664) n
def chkB (j : Nat) : Bool := nearB (sinS (2 * j)) (sinR j) && nearB (cosS (2 * j)) (cosR j)
def symB (r : Nat) : Bool := Nat.beq (sinR (4095 - r)) (cosR (r + 1))
def tanR (i : Nat) : Nat := (32768 * (wst i 12).2 + (2147483648 + (wst i 12).1)) / (2 * (2147483648 + (wst i 12).1))
def hlfB (i : Nat) : Bool := Nat.beq ((2 * (sinS i / 65536 * 16384) + cosS i / 65536) / (2 * (cosS i / 65536))) (tanR i) && Nat.beq ((2 * ((sinS i + 65535) / 65536 * 16384) + cosS i / 65536 - 1) / (2 * (cosS i / 65536))) (tanR i)
def aroB (r : Nat) : Bool := Nat.ble (sinR r * sinR r + cosR r * cosR r) (268435456 + 32768) && Nat.ble (268435456 - 32768) (sinR r * sinR r + cosR r * cosR r)
def wokB (x y c s : Nat) : Bool := Nat.ble (y * s) (x * c) && Nat.ble (x * s + y * c) 9223372035000000000 && Nat.ble (x * c) 9223372035000000000 && Nat.ble x 2147483648 && Nat.ble y 2147483648
def wall (q : Nat) : Nat → Bool
  | 0 => true
  | i + 1 => wall q i && wokB (wst q i).1 (wst q i).2 (pc i) (ps i)
theorem allB_of {f : Nat → Bool} : ∀ {n}, allB f n = true → ∀ i, i < n → f i = true
  | 0, _, i, h => absurd h (Nat.not_lt_zero i)
  | n + 1, h, i, hi => by
    simp only [allB, Bool.and_eq_true] at h
    rcases Nat.lt_or_ge i n with h1 | h1
    · exact allB_of h.2 i h1
    · obtain rfl : i = n := by omega
      exact h.1
theorem tab_wall : allB (fun q => wall q 12) 4096 = true := by decide +kernel
theorem tab_chk : allB chkB 2049 = true := by decide +kernel
theorem tab_hlf : allB hlfB 2049 = true := by decide +kernel
theorem tab_sym : allB symB 4095 = true := by decide +kernel
theorem tab_aro : allB aroB 4096 = true := by decide +kernel
theorem wall_at {q : Nat} : ∀ {n}, wall q n = true → ∀ i, i < n → wokB (wst q i).1 (wst q i).2 (pc i) (ps i) = true
  | 0, _, i, h => absurd h (Nat.not_lt_zero i)
  | n + 1, h, i, hi => by
    simp only [wall, Bool.and_eq_true] at h
    rcases Nat.lt_or_ge i n with h1 | h1
    · exact wall_at h.1 i h1
    · obtain rfl : i = n := by omega
      exact h.2
theorem wst_ok {q i : Nat} (hq : q < 4096) (hi : i < 12) :
    (wst q i).2 * ps i ≤ (wst q i).1 * pc i ∧ (wst q i).1 * ps i + (wst q i).2 * pc i ≤ 9223372035000000000 ∧ (wst q i).1 * pc i ≤ 9223372035000000000 ∧ (wst q i).1 ≤ 2147483648 ∧ (wst q i).2 ≤ 2147483648 := by
  have := wall_at (allB_of tab_wall q hq) i hi
  simp only [wokB, Bool.and_eq_true, Nat.ble_eq] at this
  exact ⟨this.1.1.1.1, this.1.1.1.2, this.1.1.2, this.1.2, this.2⟩
theorem wnx_le {x y c s : Nat} (h1 : x * s + y * c ≤ 9223372035000000000) (h2 : x * c ≤ 9223372035000000000) : (wnx x y c s).1 ≤ 4294967296 ∧ (wnx x y c s).2 ≤ 4294967296 := by
  unfold wnx
  generalize x * c = a at *
  generalize y * s = b at *
  generalize x * s = d at *
  generalize y * c = e at *
  simp only
  omega
theorem wst_le {q : Nat} (hq : q < 4096) (i : Nat) (hi : i ≤ 12) : (wst q i).1 ≤ 4294967296 ∧ (wst q i).2 ≤ 4294967296 := by
  cases i with
  | zero => simp [wst]
  | succ i =>
    have h := wst_ok hq (show i < 12 by omega)
    unfold wst
    split
    · exact wnx_le h.2.1 h.2.2.1
    · omega
theorem sin_ref {j : Nat} (h : j ≤ 2048) : (sinS (2 * j) + 35184372088832) / 70368744177664 = sinR j ∧ (sinS (2 * j) + 35184372088831) / 70368744177664 = sinR j ∧ (cosS (2 * j) + 35184372088832) / 70368744177664 = cosR j ∧ (cosS (2 * j) + 35184372088831) / 70368744177664 = cosR j := by
  have := allB_of tab_chk j (by omega)
  simp only [chkB, nearB, Bool.and_eq_true, Nat.beq_eq] at this
  exact ⟨this.1.1, this.1.2, this.2.1, this.2.2⟩
theorem sin_sym {r : Nat} (h1 : 1 ≤ r) (h : r ≤ 4095) : sinR (4096 - r) = cosR r := by
  have := allB_of tab_sym (r - 1) (by omega)
  simp only [symB, Nat.beq_eq] at this
  rw [show 4095 - (r - 1) = 4096 - r by omega, show r - 1 + 1 = r by omega] at this
  exact this
theorem cos_sym {r : Nat} (h1 : 1 ≤ r) (h : r ≤ 4095) : cosR (4096 - r) = sinR r := by
  have := sin_sym (r := 4096 - r) (by omega) (by omega)
  rw [show 4096 - (4096 - r) = r by omega] at this
  exact this.symm
theorem sin_zero : sinR 0 = 0 ∧ cosR 0 = 16384 := by decide +kernel
theorem tan_ref {i : Nat} (h : i ≤ 2048) : (2 * (sinS i / 65536 * 16384) + cosS i / 65536) / (2 * (cosS i / 65536)) = tanR i ∧ (2 * ((sinS i + 65535) / 65536 * 16384) + cosS i / 65536 - 1) / (2 * (cosS i / 65536)) = tanR i := by
  have := allB_of tab_hlf i (by omega)
  simp only [hlfB, Bool.and_eq_true, Nat.beq_eq] at this
  exact this
theorem around {r : Nat} (h : r < 4096) : sinR r * sinR r + cosR r * cosR r ≤ 268435456 + 32768 ∧ 268435456 - 32768 ≤ sinR r * sinR r + cosR r * cosR r := by
  have := allB_of tab_aro r h
  simp only [aroB, Bool.and_eq_true, Nat.ble_eq] at this
  exact this
end Go.Proofs.YtpmhioaoniijbaaDoor
