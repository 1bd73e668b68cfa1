/- a region that draws: a head by a class of worlds, then a tail in its order, in a round -/
import Derived.Test.YtopjjdfnnjgnlaaUI
namespace Go.Proofs.Ytopjjdfnnjgnlaa
open Go.RowKit Go.Shelf

theorem wp_exits {P : Program} {o : Oper} {a : Act} {w : World} {K : Act → World → Prop} {Q Q' : Exit → Act → World → Prop} (hp : ∀ c a w, Q' (.panic c) a w → Q (.panic c) a w) (ho : LetsOut Q' → LetsOut Q)
    (h : o.wp P a w K Q') : o.wp P a w K Q := by
  unfold Oper.wp at h ⊢
  generalize (execOp a.eval o).run P w = r at h ⊢
  unfold Oper.upon at h ⊢
  rcases r with ⟨x, w'⟩ | ⟨x, w'⟩
  · cases x <;> simp only at h ⊢
    all_goals first
      | exact h
      | (refine h.mono ?_
         rintro (v | c | _) w'' q
         · exact q
         · exact hp _ _ _ q
         · exact ho q)
  · cases x <;> simp only at h ⊢ <;> first | exact h | exact hp _ _ _ h
/-- behind the head: the tail -/
def tailQ (P : Program) (ops : Array Oper) (Q : Exit → Act → World → Prop) (tl : List Oper) : Exit → Act → World → Prop
  | .normal, a, w => wpList P ops Q tl a w
  | e, a, w => Q e a w
def boolsN : Nat → List (List Bool)
  | 0 => [[]]
  | n + 1 => (boolsN n).flatMap fun l => [true :: l, false :: l]
theorem mem_boolsN : ∀ (l : List Bool), l ∈ boolsN l.length
  | [] => by simp [boolsN]
  | b :: l => by
    show b :: l ∈ (boolsN l.length).flatMap _
    rw [List.mem_flatMap]
    refine ⟨l, mem_boolsN l, ?_⟩
    cases b <;> simp
/-- what is listed has all listed for which it waits -/
def closedB (ops : Array Oper) (L : List Bool) : Bool :=
  (List.range L.length).all fun i => !L.toArray.getD i false || ((ops[i]?).map (·.after.all fun e => !Region.binds .any e || L.toArray.getD e.on false)).getD false
def splitOne (ops ops' : Array Oper) (n g : Nat) (L : List Bool) : Bool := !closedB ops' L ||
  (if L.all id then Region.seqB .any ops g n (L ++ List.replicate g false).toArray
  else (Region.ready .any ops' L.toArray).all (fun i => closedB ops' (L.set i true)) && (decide (Region.ready .any ops (L ++ List.replicate g false).toArray = Region.ready .any ops' L.toArray) && !(Region.ready .any ops' L.toArray).isEmpty))
def splitB (ops ops' : Array Oper) (n g : Nat) : Bool := (boolsN n).all (splitOne ops ops' n g)
theorem splitB_at {ops ops' : Array Oper} {n g : Nat} (h : splitB ops ops' n g = true) {L : List Bool} (hL : L.length = n) : splitOne ops ops' n g L = true := by
  subst hL
  exact List.all_eq_true.1 h L (mem_boolsN L)
theorem count_set : ∀ {L : List Bool} {i : Nat}, L[i]? = some false → L.count false = (L.set i true).count false + 1
  | [], i, h => by simp at h
  | b :: l, 0, h => by
    simp at h
    subst h
    simp
  | b :: l, i + 1, h => by
    have ih := count_set (L := l) (i := i) (by simpa using h)
    simp only [List.set_cons_succ, List.count_cons]
    omega
theorem wpAny_split {P : Program} {Q : Exit → Act → World → Prop} {ops ops' : Array Oper} {n g : Nat} {tl : List Oper} (hB : splitB ops ops' n g = true) (hops : ∀ i, i < n → ops'[i]? = ops[i]?) (hsz : ops'.size = n)
    (hg : ∀ o, o ∈ ops'.toList → o.guard = none) (htl : ∀ j, tl[j]? = ops[n + j]?) (hlen : tl.length = g) : ∀ (f : Nat) (L : List Bool) (a : Act) (w : World), L.length = n → f = L.count false → closedB ops' L = true →
    wpAny P .any ops' (tailQ P ops Q tl) f L.toArray a w → wpAny P .any ops Q (f + g) (L ++ List.replicate g false).toArray a w
  | 0, L, a, w, hL, hf, hcl, h => by
    have hall : L.all id = true := by
      rw [List.all_eq_true]
      intro b hb
      cases b with
      | true => rfl
      | false => have := List.count_pos_iff.2 hb; omega
    have hs := splitB_at hB hL
    unfold splitOne at hs
    rw [hcl, Bool.not_true, Bool.false_or, if_pos hall] at hs
    rw [Nat.zero_add]
    have := wpAny_of_seq (P := P) (md := .any) (ops := ops) (Q' := Q) tl n (L ++ List.replicate g false).toArray a w htl (by rw [hlen]; exact hs) h.2
    rw [hlen] at this
    exact this
  | f + 1, L, a, w, hL, hf, hcl, h => by
    have hall : ¬ L.all id = true := fun e => by
      have : L.count false = 0 := List.count_eq_zero.2 fun hm => by
        have := List.all_eq_true.1 e false hm
        cases this
      omega
    have hs := splitB_at hB hL
    unfold splitOne at hs
    rw [hcl, Bool.not_true, Bool.false_or, if_neg hall, Bool.and_eq_true, Bool.and_eq_true, decide_eq_true_iff] at hs
    obtain ⟨hcn, hr, hne⟩ := hs
    rw [show f + 1 + g = f + g + 1 by omega]
    refine ⟨fun h0 => ?_, fun i hi => ?_⟩
    · rw [← hr, h0] at hne; simp at hne
    · rw [hr] at hi
      have h2 := h.2 i hi
      have hcl2 := List.all_eq_true.1 hcn i hi
      unfold Region.ready at hi
      rw [List.mem_filter, List.mem_range, Bool.and_eq_true] at hi
      have hin : i < n := by omega
      have hLi : L[i]? = some false := by
        have h3 := hi.2.1
        have e : L[i]? = some L[i] := List.getElem?_eq_getElem (by omega)
        rw [e]
        have e2 : L.toArray.getD i true = L[i] := by simp [Array.getD, show i < L.length by omega]
        rw [e2] at h3
        cases hb : L[i] with
        | true => rw [hb] at h3; cases h3
        | false => rfl
      have hset : (L ++ List.replicate g false).toArray.setIfInBounds i true = (L.set i true ++ List.replicate g false).toArray := by
        rw [List.setIfInBounds_toArray, List.set_append_left _ _ (by omega)]
      have hset' : L.toArray.setIfInBounds i true = (L.set i true).toArray := by rw [List.setIfInBounds_toArray]
      have hK := fun a' w' => wpAny_split (P := P) (Q := Q) hB hops hsz hg htl hlen f (L.set i true) a' w' (by rw [List.length_set]; exact hL) (by have := count_set hLi; omega) hcl2
      unfold wpOp at h2 ⊢
      rw [← hops i hin]
      cases ho : ops'[i]? with
      | none => rw [Array.getElem?_eq_none_iff] at ho; omega
      | some o =>
        rw [ho] at h2
        have hgo : o.guard = none := hg o (by have := Array.mem_of_getElem? ho; simpa using this)
        have hw1 : Region.wanted o (yielded ops' a.tmps) = true := by simp [Region.wanted, hgo]
        have hw2 : Region.wanted o (yielded ops a.tmps) = true := by simp [Region.wanted, hgo]
        simp only at h2 ⊢
        rw [if_pos hw1] at h2
        rw [if_pos hw2]
        rw [hset'] at h2
        rw [hset]
        refine h2.imp (fun h3 => wp_exits (Q' := tailQ P ops Q tl) (fun _ _ _ h => h) (fun ⟨a, w, h⟩ => ⟨a, w, h⟩) (Oper.wp_mono hK h3)) (fun h3 => ⟨h3.1, ?_⟩)
        obtain ⟨a, w, h⟩ := h3.2
        exact ⟨a, w, h⟩
def noGuard (l : List Oper) : Bool := l.all fun o => o.guard.isNone
theorem noGuard_spec {l : List Oper} (h : noGuard l = true) : ∀ o, o ∈ l → o.guard = none := fun o ho => by
  have := List.all_eq_true.1 h o ho
  simpa using this
theorem region_split_in {id l₀ n₀ : Nat} {P : Program} {Q : Exit → Act → World → Prop} {a : Act} {w : World} {l : List Oper} (n : Nat) (S : World → Prop) (hm : P.follows .mixedOrders = true) (hd : noDefer l = true) (hQ : ¬ LetsOut Q) (hn : n < l.length)
    (hB : splitB l.toArray (l.take n).toArray n (l.length - n) = true) (hg : noGuard (l.take n) = true) (hc0 : closedB (l.take n).toArray (List.replicate n false) = true)
    (h : wpAnyH P .any (l.take n).toArray (tailQ P l.toArray Q (l.drop n)) S n (Array.replicate n false) a w.drew) : (Code.region id l.toArray true).wpIn (Fence.wide.inRound l₀) n₀ P Q a w := by
  refine wpIn_region_any hm (any_in (noDefer_spec hd) hQ _ _ _ _ ?_)
  have e := wpAny_split (P := P) (Q := Q) hB (fun i hi => by simp [hi]) (by simp; omega) (fun o ho => noGuard_spec hg o (by simpa using ho)) (tl := l.drop n) (fun j => by simp [List.getElem?_drop]) (by simp) n (List.replicate n false) a w.drew (by simp) (by simp) hc0
    (by have := wpAny_of_held _ _ _ _ h; rw [List.toArray_replicate]; exact this)
  have es : n + (l.length - n) = l.length := by omega
  rw [List.replicate_append_replicate, es, List.toArray_replicate] at e
  rw [show l.toArray.size = l.length by simp]
  exact e
end Go.Proofs.Ytopjjdfnnjgnlaa
