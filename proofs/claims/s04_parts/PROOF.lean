import PyProof.Rows.All
import Wide.All
import OpenK.AllK
import Wide.FinOn
import Open.SpecLaws
import KE.OsHead
import KE.OsGo
import HandS.ForSpec
import HandS.Text
import PySem.Challenge.RW_unparted_s04_parts
set_option Elab.async false
set_option maxRecDepth 100000
set_option maxHeartbeats 2000000
namespace My
open Sn90
/-! ## primes -/
theorem mod_nat (p d : Int) (hp : 0 ≤ p) (hd : 0 ≤ d) : p.fmod d = ((p.toNat % d.toNat : Nat) : Int) := by
  obtain ⟨a, rfl⟩ := Int.eq_ofNat_of_zero_le hp
  obtain ⟨b, rfl⟩ := Int.eq_ofNat_of_zero_le hd
  rw [Int.fmod_eq_emod_of_nonneg _ hd, Int.toNat_natCast, Int.toNat_natCast, Int.natCast_emod]
theorem prime_of {q : Nat} (h2 : 2 ≤ q) (h : ∀ e, 2 ≤ e → e < q → q % e ≠ 0) : prime q = true := by
  unfold prime
  rw [Bool.and_eq_true, List.all_eq_true]
  refine ⟨decide_eq_true h2, fun d hd => ?_⟩
  have hd := List.mem_range.mp hd
  by_cases c : d < 2
  · simp [c]
  · have := h d (by omega) hd
    simp [this]
theorem prime_no {q e : Nat} (h : 2 ≤ e) (hq : e < q) (hm : q % e = 0) : prime q = false := by
  unfold prime
  rw [Bool.and_eq_false_iff]
  right
  rw [List.all_eq_false]
  refine ⟨e, List.mem_range.mpr hq, ?_⟩
  have : ¬ e < 2 := by omega
  simp [this, hm]
theorem prime_two {q : Nat} (h : prime q = true) : 2 ≤ q := by
  unfold prime at h
  rw [Bool.and_eq_true] at h
  exact of_decide_eq_true h.1
theorem primeOk_two {q : Nat} (h : primeOk q = true) : 2 ≤ q ∧ q < 65536 := by
  unfold primeOk at h
  rw [Bool.and_eq_true] at h
  exact ⟨prime_two h.2, of_decide_eq_true h.1⟩
/-- no divisor below d, and d's square is above q -/
theorem prime_sq {q d : Nat} (h2 : 2 ≤ q) (hd : q < d * d) (h : ∀ e, 2 ≤ e → e < d → q % e ≠ 0) : prime q = true := by
  refine prime_of h2 fun e he hq hm => ?_
  by_cases c : e < d
  · exact h e he c hm
  · have hk : e * (q / e) = q := Nat.mul_div_cancel' (Nat.dvd_of_mod_eq_zero hm)
    have h1 : 2 ≤ q / e := by
      generalize q / e = u at hk ⊢
      match u, hk with
      | 0, hk => rw [Nat.mul_zero] at hk; omega
      | 1, hk => rw [Nat.mul_one] at hk; omega
      | u + 2, _ => omega
    have h3 : q / e < d := by
      rcases Nat.lt_or_ge (q / e) d with l | g
      · exact l
      · have : d * d ≤ e * (q / e) := Nat.mul_le_mul (Nat.le_of_not_lt c) g
        omega
    refine h _ h1 h3 ?_
    have : q % (q / e) = (e * (q / e)) % (q / e) := by rw [hk]
    rw [this, Nat.mul_mod_left]
theorem ip_small {p : Int} (h0 : 0 ≤ p) (h : p < 2) : primeOk p.toNat = false := by
  cases e : primeOk p.toNat with
  | false => rfl
  | true => have := primeOk_two e; omega
theorem ip_large {p : Int} (h : 65535 < p) : primeOk p.toNat = false := by
  cases e : primeOk p.toNat with
  | false => rfl
  | true => have := primeOk_two e; omega
theorem ip_no {p d : Int} (hd : 2 ≤ d) (h : d * d ≤ p) (hm : p.fmod d = 0) : primeOk p.toNat = false := by
  have hdp : d < p := by
    have : 2 * d ≤ d * d := Int.mul_le_mul_of_nonneg_right hd (by omega)
    omega
  rw [mod_nat p d (by omega) (by omega)] at hm
  unfold primeOk
  rw [prime_no (e := d.toNat) (by omega) (by omega) (by omega), Bool.and_false]
theorem ip_yes {p d : Int} (h2 : 2 ≤ p) (hp : p ≤ 65535) (hd : 2 ≤ d) (h : ¬ d * d ≤ p) (hm : ∀ e : Nat, 2 ≤ e → (e : Int) < d → p.toNat % e ≠ 0) : primeOk p.toNat = true := by
  unfold primeOk
  rw [Bool.and_eq_true]
  refine ⟨decide_eq_true (by omega), prime_sq (d := d.toNat) (by omega) ?_ fun e he hl => hm e he (by omega)⟩
  have : ((d.toNat * d.toNat : Nat) : Int) = d * d := by rw [Int.natCast_mul, Int.toNat_of_nonneg (by omega)]
  omega
/-! ## heights -/
theorem often_succ (p k n : Nat) : often p (k + 1) n = if n ≠ 0 ∧ n % p = 0 then 1 + often p k (n / p) else 0 := rfl
theorem often_zero (p k : Nat) : often p k 0 = 0 := by
  cases k with
  | zero => rfl
  | succ k => rw [often_succ, if_neg (by omega)]
theorem often_any {p : Nat} (hp : 2 ≤ p) : ∀ (k m n : Nat), n ≤ k → n ≤ m → often p k n = often p m n
  | 0, m, n, h, _ => by
    have : n = 0 := by omega
    rw [this, often_zero, often_zero]
  | k + 1, 0, n, _, h => by
    have : n = 0 := by omega
    rw [this, often_zero, often_zero]
  | k + 1, m + 1, n, h1, h2 => by
    rw [often_succ, often_succ]
    by_cases c : n ≠ 0 ∧ n % p = 0
    · have : n / p < n := Nat.div_lt_self (by omega) (by omega)
      rw [if_pos c, if_pos c, often_any hp k m (n / p) (by omega) (by omega)]
    · rw [if_neg c, if_neg c]
theorem often_yes {p n : Nat} (hp : 2 ≤ p) (hn : n ≠ 0) (h : n % p = 0) : often p n n = 1 + often p (n / p) (n / p) := by
  have : n / p < n := Nat.div_lt_self (by omega) (by omega)
  obtain ⟨k, rfl⟩ : ∃ k, n = k + 1 := ⟨n - 1, by omega⟩
  rw [often_succ, if_pos ⟨hn, h⟩, often_any hp k _ _ (by omega) (Nat.le_refl _)]
theorem often_no {p n : Nat} (h : n % p ≠ 0) : often p n n = 0 := by
  cases n with
  | zero => rfl
  | succ k => rw [often_succ, if_neg (by omega)]
theorem fmod_dvd {z q : Int} (hq : 0 < q) : z.fmod q = 0 ↔ z.natAbs % q.toNat = 0 := by
  rw [Int.fmod_eq_emod_of_nonneg _ (by omega : 0 ≤ q)]
  constructor
  · intro h
    have h1 : q ∣ z := Int.dvd_of_emod_eq_zero h
    have h2 : q.natAbs ∣ z.natAbs := Int.natAbs_dvd_natAbs.mpr h1
    rw [show q.toNat = q.natAbs by omega]
    exact Nat.mod_eq_zero_of_dvd h2
  · intro h
    have h2 : q.toNat ∣ z.natAbs := Nat.dvd_of_mod_eq_zero h
    rw [show q.toNat = q.natAbs by omega] at h2
    exact Int.emod_eq_zero_of_dvd (Int.natAbs_dvd_natAbs.mp h2)
theorem fdiv_abs {z q : Int} (hq : 0 < q) (h : z.fmod q = 0) : (z.fdiv q).natAbs = z.natAbs / q.toNat := by
  rw [Int.fmod_eq_emod_of_nonneg _ (by omega : 0 ≤ q)] at h
  rw [Int.fdiv_eq_ediv_of_nonneg _ (by omega : 0 ≤ q)]
  have h1 : q ∣ z := Int.dvd_of_emod_eq_zero h
  rw [show q.toNat = q.natAbs by omega]
  exact Int.natAbs_ediv_of_dvd h1
theorem height_yes {q z : Int} (hq : 2 ≤ q) (hz : z ≠ 0) (h : z.fmod q = 0) : height q.toNat z = 1 + height q.toNat (z.fdiv q) ∧ z.fdiv q ≠ 0 ∧ (z.fdiv q).natAbs < z.natAbs := by
  have h1 := fdiv_abs (by omega : 0 < q) h
  have h2 := (fmod_dvd (by omega : 0 < q)).mp h
  have h3 : z.natAbs / q.toNat < z.natAbs := Nat.div_lt_self (by omega) (by omega)
  have h4 : z.natAbs / q.toNat ≠ 0 := by
    have := Nat.div_add_mod z.natAbs q.toNat
    intro e
    rw [e, h2] at this
    omega
  refine ⟨?_, by omega, by omega⟩
  unfold height
  rw [h1, often_yes (by omega) (by omega) h2]
theorem height_no {q z : Int} (hq : 2 ≤ q) (h : ¬ z.fmod q = 0) : height q.toNat z = 0 :=
  often_no fun e => h ((fmod_dvd (by omega)).mpr e)
end My
namespace My
open Sn90
/-! ## points and corners -/
/-- the places with a point -/
def places (f : List Int) : List Nat := (List.range f.length).filter fun k => coef f k != 0
/-- one turn of the look for the next corner -/
def stepN (p : Nat) (f : List Int) (i : Nat) (b k : Nat) : Nat := if b = i ∨ flatter p f i k b = true then k else b
theorem places_lt (f : List Int) : (places f).Pairwise (· < ·) := (List.pairwise_lt_range).filter _
theorem places_mem {f : List Int} {k : Nat} : k ∈ places f ↔ k < f.length ∧ coef f k ≠ 0 := by
  unfold places
  rw [List.mem_filter, List.mem_range, bne_iff_ne]
theorem lt_at {l : List Nat} (h : l.Pairwise (· < ·)) {a b i k : Nat} (ha : l[a]? = some i) (hb : l[b]? = some k) (hab : a < b) : i < k := by
  obtain ⟨h1, rfl⟩ := List.getElem?_eq_some_iff.mp ha
  obtain ⟨h2, rfl⟩ := List.getElem?_eq_some_iff.mp hb
  exact List.pairwise_iff_getElem.mp h a b h1 h2 hab
/-- what is above the item at a, of a list that rises -/
theorem above_drop : ∀ {l : List Nat} {a i : Nat}, l.Pairwise (· < ·) → l[a]? = some i → l.filter (fun k => decide (i < k)) = l.drop (a + 1)
  | [], a, i, _, h => by simp at h
  | x :: r, 0, i, hp, h => by
    have e : x = i := Option.some.inj h
    subst e
    have hx := List.pairwise_cons.mp hp
    rw [List.filter_cons, if_neg (by simp), List.drop_succ_cons, List.drop_zero]
    exact List.filter_eq_self.mpr fun k hk => decide_eq_true (hx.1 k hk)
  | x :: r, a + 1, i, hp, h => by
    have hx := List.pairwise_cons.mp hp
    have hi : i ∈ r := List.mem_of_getElem? (show r[a]? = some i from h)
    have := hx.1 i hi
    rw [List.filter_cons, if_neg (by simp; omega), List.drop_succ_cons]
    exact above_drop hx.2 h
theorem next_fold {p : Nat} {f : List Int} {a i : Nat} (h : (places f)[a]? = some i) : next p f i = ((places f).drop (a + 1)).foldl (stepN p f i) i := by
  have e : ((List.range f.length).filter fun k => decide (i < k) && coef f k != 0) = (places f).filter fun k => decide (i < k) := by
    unfold places
    rw [List.filter_filter]
  unfold next
  rw [e, above_drop (places_lt f) h]
  rfl
theorem take_snoc {α : Type} : ∀ {l : List α} {i : Nat} {x : α}, l[i]? = some x → l.take (i + 1) = l.take i ++ [x]
  | [], i, x, h => by simp at h
  | a :: l, 0, x, h => by
    have e : a = x := Option.some.inj h
    subst e
    rfl
  | a :: l, i + 1, x, h => by
    have ih := take_snoc (l := l) (i := i) (x := x) h
    show a :: l.take (i + 1) = a :: l.take i ++ [x]
    rw [ih]
    rfl
/-- behind t turns the best is at b -/
def BestAt (p : Nat) (f : List Int) (a i t b : Nat) : Prop := a < b ∧ (places f)[b]? = some ((((places f).drop (a + 1)).take t).foldl (stepN p f i) i)
theorem best_start {p : Nat} {f : List Int} {a i : Nat} (h1 : a + 1 < (places f).length) : BestAt p f a i 1 (a + 1) := by
  refine ⟨Nat.lt_succ_self a, ?_⟩
  obtain ⟨k, hk⟩ : ∃ k, (places f)[a + 1]? = some k := ⟨_, List.getElem?_eq_getElem h1⟩
  have hd : ((places f).drop (a + 1))[0]? = some k := by rw [List.getElem?_drop]; exact hk
  rw [take_snoc hd, List.take_zero, List.nil_append, List.foldl_cons, List.foldl_nil, hk]
  unfold stepN
  rw [if_pos (Or.inl rfl)]
theorem best_end {p : Nat} {f : List Int} {a i t b : Nat} (h : (places f)[a]? = some i) (ht : a + 1 + t = (places f).length) (hb : BestAt p f a i t b) : (places f)[b]? = some (next p f i) := by
  rw [next_fold h, hb.2, List.take_of_length_le (by rw [List.length_drop]; omega)]
theorem best_step {p : Nat} {f : List Int} {a i t b k m : Nat} (h : (places f)[a]? = some i) (hk : (places f)[a + 1 + t]? = some k) (hm : (places f)[b]? = some m) (hb : BestAt p f a i t b) :
    (flatter p f i k m = true → BestAt p f a i (t + 1) (a + 1 + t)) ∧ (flatter p f i k m = false → BestAt p f a i (t + 1) b) := by
  have hd : ((places f).drop (a + 1))[t]? = some k := by rw [List.getElem?_drop]; exact hk
  have e : (((places f).drop (a + 1)).take t).foldl (stepN p f i) i = m := Option.some.inj (hb.2.symm.trans hm)
  have ne : m ≠ i := by
    have := lt_at (places_lt f) h hm hb.1
    omega
  constructor
  · intro c
    refine ⟨by omega, ?_⟩
    rw [take_snoc hd, List.foldl_append, e, hk, List.foldl_cons, List.foldl_nil]
    unfold stepN
    rw [if_pos (Or.inr c)]
  · intro c
    refine ⟨hb.1, ?_⟩
    rw [take_snoc hd, List.foldl_append, e, hm, List.foldl_cons, List.foldl_nil]
    unfold stepN
    rw [if_neg (by rintro (z | z); exact ne z; rw [c] at z; exact Bool.noConfusion z)]
/-- the way to k rises no more steeply, by the program's difference -/
theorem flat_iff {p : Nat} {f : List Int} {i k b : Nat} : flatter p f i k b = decide ((at_ p f k - at_ p f i) * ((b : Int) - (i : Int)) - (at_ p f b - at_ p f i) * ((k : Int) - (i : Int)) ≤ 0) := by
  unfold flatter
  exact decide_eq_decide.mpr ⟨fun h => by omega, fun h => by omega⟩
theorem cf_zero (p : Nat) (f : List Int) (i : Nat) : cornersFrom p f 0 i = [i] := rfl
theorem cf_succ (p : Nat) (f : List Int) (m i : Nat) : cornersFrom p f (m + 1) i = if i + 1 = f.length then [i] else i :: cornersFrom p f m (next p f i) := rfl
/-- the walk along the corners: what is found, what is still to come -/
structure Found (p : Nat) (f : List Int) (j : Nat) (done : List Nat) : Prop where
  to : ∃ i m pre, (places f)[j]? = some i ∧ done = pre ++ [i] ∧ corners p f = pre ++ cornersFrom p f m i ∧ f.length ≤ m + i
theorem found_start {p : Nat} {f : List Int} (h : (places f)[0]? = some 0) : Found p f 0 [0] := ⟨0, f.length, [], h, rfl, rfl, by omega⟩
theorem last_place {f : List Int} {j i : Nat} (hl : (places f)[j]? = some i) (hf : f.length ≠ 0) (hn : coef f (f.length - 1) ≠ 0) : j + 1 = (places f).length ↔ i + 1 = f.length := by
  have hlast : f.length - 1 ∈ places f := places_mem.mpr ⟨by omega, hn⟩
  obtain ⟨e, he⟩ := List.getElem?_of_mem hlast
  have hi := places_mem.mp (List.mem_of_getElem? hl)
  have je : j < (places f).length := (List.getElem?_eq_some_iff.mp hl).1
  have ee : e < (places f).length := (List.getElem?_eq_some_iff.mp he).1
  constructor
  · intro h
    rcases Nat.lt_trichotomy e j with c | c | c
    · have := lt_at (places_lt f) he hl c
      omega
    · subst c
      have := Option.some.inj (he.symm.trans hl)
      omega
    · omega
  · intro h
    rcases Nat.lt_trichotomy e j with c | c | c
    · have := lt_at (places_lt f) he hl c
      omega
    · subst c
      rcases Nat.lt_or_ge (e + 1) (places f).length with l | g
      · obtain ⟨k, hk⟩ : ∃ k, (places f)[e + 1]? = some k := ⟨_, List.getElem?_eq_getElem l⟩
        have h1 := lt_at (places_lt f) hl hk (Nat.lt_succ_self e)
        have h2 := places_mem.mp (List.mem_of_getElem? hk)
        omega
      · omega
    · have := lt_at (places_lt f) hl he c
      omega
theorem found_end {p : Nat} {f : List Int} {j : Nat} {done : List Nat} (F : Found p f j done) (hf : f.length ≠ 0) (hn : coef f (f.length - 1) ≠ 0) (hj : j + 1 = (places f).length) : done = corners p f := by
  obtain ⟨i, m, pre, h1, h2, h3, h4⟩ := F.to
  have e := (last_place h1 hf hn).mp hj
  rw [h2, h3]
  cases m with
  | zero => rfl
  | succ m => rw [cf_succ, if_pos e]
theorem found_step {p : Nat} {f : List Int} {j b i : Nat} {done : List Nat} (F : Found p f j done) (hf : f.length ≠ 0) (hn : coef f (f.length - 1) ≠ 0) (hj : j + 1 < (places f).length) (hi : (places f)[j]? = some i) (hb : (places f)[b]? = some (next p f i)) (hjb : j < b) : Found p f b (done ++ [next p f i]) := by
  obtain ⟨i', m, pre, h1, h2, h3, h4⟩ := F.to
  have e := Option.some.inj (hi.symm.trans h1)
  subst e
  have ne : ¬ i + 1 = f.length := fun z => by
    have := (last_place h1 hf hn).mpr z
    omega
  have hlt := lt_at (places_lt f) h1 hb hjb
  have hi2 := places_mem.mp (List.mem_of_getElem? h1)
  cases m with
  | zero => omega
  | succ m =>
    rw [cf_succ, if_neg ne] at h3
    refine ⟨next p f i, m, done, hb, rfl, ?_, by omega⟩
    rw [h3, h2, List.append_assoc]
    rfl
theorem found_at {p : Nat} {f : List Int} {j : Nat} {done : List Nat} (F : Found p f j done) : ∃ i, (places f)[j]? = some i := by
  obtain ⟨i, m, pre, h1, h2, h3, h4⟩ := F.to
  exact ⟨i, h1⟩
theorem places_first {f : List Int} (hf : f.length ≠ 0) (h : coef f 0 ≠ 0) : (places f)[0]? = some 0 := by
  have hm : 0 ∈ places f := places_mem.mpr ⟨by omega, h⟩
  obtain ⟨e, he⟩ := List.getElem?_of_mem hm
  cases e with
  | zero => exact he
  | succ e =>
    obtain ⟨k, hk⟩ : ∃ k, (places f)[0]? = some k := ⟨_, List.getElem?_eq_getElem (Nat.lt_of_le_of_lt (Nat.zero_le _) (List.getElem?_eq_some_iff.mp he).1)⟩
    have := lt_at (places_lt f) hk he (Nat.succ_pos e)
    omega
/-- the places among the first n -/
theorem places_take_yes {f : List Int} {n : Nat} (h : coef f n ≠ 0) : (List.range (n + 1)).filter (fun k => coef f k != 0) = (List.range n).filter (fun k => coef f k != 0) ++ [n] := by
  rw [List.range_succ, List.filter_append, List.filter_cons, if_pos (by rw [bne_iff_ne]; exact h), List.filter_nil]
theorem places_take_no {f : List Int} {n : Nat} (h : coef f n = 0) : (List.range (n + 1)).filter (fun k => coef f k != 0) = (List.range n).filter (fun k => coef f k != 0) := by
  rw [List.range_succ, List.filter_append, List.filter_cons, if_neg (by rw [bne_iff_ne]; exact fun z => z h), List.filter_nil, List.append_nil]
theorem places_len (f : List Int) (n : Nat) : ((List.range n).filter (fun k => coef f k != 0)).length ≤ n := Nat.le_trans (List.length_filter_le ..) (by rw [List.length_range]; exact Nat.le_refl _)
end My
namespace My
open Sn90
/-! ## corners rise, from 0 to the last place -/
theorem step_in {p : Nat} {f : List Int} {i n : Nat} : ∀ (l : List Nat) (b : Nat), (∀ k, k ∈ l → i < k ∧ k < n) → (b = i → l ≠ []) → (b ≠ i → i < b ∧ b < n) → i < l.foldl (stepN p f i) b ∧ l.foldl (stepN p f i) b < n
  | [], b, _, h2, h3 => h3 fun e => h2 e rfl
  | k :: l, b, h1, h2, h3 => by
    have hk := h1 k (List.mem_cons_self ..)
    have e : stepN p f i b k ≠ i ∧ i < stepN p f i b k ∧ stepN p f i b k < n := by
      unfold stepN
      by_cases c : b = i ∨ flatter p f i k b = true
      · rw [if_pos c]
        omega
      · rw [if_neg c]
        have hb : b ≠ i := fun z => c (Or.inl z)
        have := h3 hb
        omega
    exact step_in l (stepN p f i b k) (fun k hk => h1 k (List.mem_cons_of_mem _ hk)) (fun z => absurd z e.1) (fun _ => e.2)
theorem next_in {p : Nat} {f : List Int} {i : Nat} (hn : coef f (f.length - 1) ≠ 0) (hi : i + 1 < f.length) : i < next p f i ∧ next p f i < f.length := by
  unfold next
  refine step_in _ _ (fun k hk => ?_) (fun _ z => ?_) (fun z => absurd rfl z)
  · obtain ⟨h1, h2⟩ := List.mem_filter.mp hk
    rw [Bool.and_eq_true] at h2
    exact ⟨of_decide_eq_true h2.1, List.mem_range.mp h1⟩
  · have : f.length - 1 ∈ ([] : List Nat) := by
      rw [← z, List.mem_filter, List.mem_range, Bool.and_eq_true, bne_iff_ne]
      exact ⟨by omega, decide_eq_true (by omega), hn⟩
    exact absurd this (List.not_mem_nil)
/-- the pieces between neighbours of a list of corners -/
def pcs (p : Nat) (f : List Int) (l : List Nat) : List Nat := (l.zip (l.drop 1)).flatMap fun x => piecesOf p f x.1 x.2
theorem sum_rep (g s : Nat) : (List.replicate g s).sum = g * s := by
  induction g with
  | zero => rw [Nat.zero_mul]; rfl
  | succ g ih => rw [List.replicate_succ, List.sum_cons, ih, Nat.succ_mul, Nat.add_comm]
theorem po_sum {p : Nat} {f : List Int} {i k : Nat} : (piecesOf p f i k).sum = k - i := by
  unfold piecesOf
  dsimp only
  rw [sum_rep]
  exact Nat.mul_div_cancel' (Nat.gcd_dvd_right _ _)
theorem po_pos {p : Nat} {f : List Int} {i k : Nat} (h : i < k) : ∀ d, d ∈ piecesOf p f i k → 1 ≤ d := by
  intro d hd
  unfold piecesOf at hd
  have e := (List.mem_replicate.mp hd).2
  have hg : 0 < Nat.gcd (at_ p f k - at_ p f i).natAbs (k - i) := Nat.gcd_pos_of_pos_right _ (by omega)
  have := Nat.div_pos (Nat.le_of_dvd (by omega) (Nat.gcd_dvd_right (at_ p f k - at_ p f i).natAbs (k - i))) hg
  omega
theorem po_len {p : Nat} {f : List Int} {i k : Nat} (h : i < k) : (piecesOf p f i k).length ≤ k - i := by
  unfold piecesOf
  rw [List.length_replicate]
  exact Nat.gcd_le_right _ (by omega)
/-- a walk along the corners: what it gives -/
structure Walk (p : Nat) (f : List Int) (i : Nat) (l : List Nat) : Prop where
  head : l[0]? = some i
  rise : ∀ (t a b : Nat), l[t]? = some a → l[t + 1]? = some b → a < b ∧ b < f.length
  sum : (pcs p f l).sum = f.length - 1 - i
  pos : ∀ d, d ∈ pcs p f l → 1 ≤ d
theorem pcs_one (p : Nat) (f : List Int) (i : Nat) : pcs p f [i] = [] := rfl
theorem pcs_two {p : Nat} {f : List Int} {i j : Nat} {r : List Nat} : pcs p f (i :: j :: r) = piecesOf p f i j ++ pcs p f (j :: r) := rfl
theorem walk_from {p : Nat} {f : List Int} (hn : coef f (f.length - 1) ≠ 0) : ∀ (m i : Nat), i < f.length → f.length ≤ m + i → Walk p f i (cornersFrom p f m i)
  | 0, i, h1, h2 => by omega
  | m + 1, i, h1, h2 => by
    rw [cf_succ]
    by_cases c : i + 1 = f.length
    · rw [if_pos c]
      refine ⟨rfl, fun t a b _ hb => by simp at hb, ?_, fun d hd => ?_⟩
      · rw [pcs_one]
        show 0 = _
        omega
      · rw [pcs_one] at hd
        exact absurd hd List.not_mem_nil
    · rw [if_neg c]
      have hx := next_in (p := p) hn (by omega : i + 1 < f.length)
      have W := walk_from (p := p) hn m (next p f i) hx.2 (by omega)
      generalize cornersFrom p f m (next p f i) = l at W
      match l, W with
      | [], W => exact absurd W.head (by simp)
      | j :: r, W =>
        have e : j = next p f i := Option.some.inj W.head
        subst e
        refine ⟨rfl, fun t a b ha hb => ?_, ?_, fun d hd => ?_⟩
        · cases t with
          | zero =>
            have ea : i = a := Option.some.inj ha
            have eb : next p f i = b := Option.some.inj hb
            subst ea; subst eb
            exact hx
          | succ t => exact W.rise t a b ha hb
        · rw [pcs_two, List.sum_append, po_sum, W.sum]
          omega
        · rw [pcs_two] at hd
          rcases List.mem_append.mp hd with z | z
          · exact po_pos hx.1 d z
          · exact W.pos d z
theorem walk_all {p : Nat} {f : List Int} (hf : f.length ≠ 0) (hn : coef f (f.length - 1) ≠ 0) : Walk p f 0 (corners p f) := walk_from hn _ _ (by omega) (by omega)
theorem len_sum : ∀ (l : List Nat), (∀ d, d ∈ l → 1 ≤ d) → l.length ≤ l.sum
  | [], _ => Nat.le_refl _
  | x :: r, h => by
    have h1 := h x (List.mem_cons_self ..)
    have h2 := len_sum r fun d hd => h d (List.mem_cons_of_mem _ hd)
    rw [List.length_cons, List.sum_cons]
    omega
theorem pieces_pcs (p : Nat) (f : List Int) : pieces p f = pcs p f (corners p f) := rfl
theorem pieces_sum {p : Nat} {f : List Int} (hf : f.length ≠ 0) (hn : coef f (f.length - 1) ≠ 0) : (pieces p f).sum = f.length - 1 := by
  rw [pieces_pcs, (walk_all hf hn).sum]
  rfl
theorem pieces_len {p : Nat} {f : List Int} (hf : f.length ≠ 0) (hn : coef f (f.length - 1) ≠ 0) : (pieces p f).length ≤ f.length - 1 := by
  rw [← pieces_sum (p := p) hf hn]
  exact len_sum _ (walk_all hf hn).pos
/-! ## the pieces behind t turns -/
def pcsT (p : Nat) (f : List Int) (l : List Nat) (t : Nat) : List Nat := ((l.zip (l.drop 1)).take t).flatMap fun x => piecesOf p f x.1 x.2
theorem pcsT_zero (p : Nat) (f : List Int) (l : List Nat) : pcsT p f l 0 = [] := rfl
theorem zip_at {l : List Nat} {t a b : Nat} (ha : l[t]? = some a) (hb : l[t + 1]? = some b) : (l.zip (l.drop 1))[t]? = some (a, b) := by
  rw [List.getElem?_zip_eq_some, List.getElem?_drop, Nat.add_comm 1 t]
  exact ⟨ha, hb⟩
theorem pcsT_succ {p : Nat} {f : List Int} {l : List Nat} {t a b : Nat} (ha : l[t]? = some a) (hb : l[t + 1]? = some b) : pcsT p f l (t + 1) = pcsT p f l t ++ piecesOf p f a b := by
  unfold pcsT
  rw [take_snoc (zip_at ha hb), List.flatMap_append]
  simp
theorem pcsT_end {p : Nat} {f : List Int} {l : List Nat} {t : Nat} (h : l.length ≤ t + 1) : pcsT p f l t = pcs p f l := by
  unfold pcsT pcs
  rw [List.take_of_length_le]
  rw [List.length_zip, List.length_drop]
  omega
theorem pcsT_len {p : Nat} {f : List Int} {l : List Nat} {t : Nat} : (pcsT p f l t).length ≤ (pcs p f l).length := by
  unfold pcsT pcs
  have e := List.take_append_drop t (l.zip (l.drop 1))
  have : ((l.zip (l.drop 1)).flatMap fun x => piecesOf p f x.1 x.2) = (((l.zip (l.drop 1)).take t).flatMap fun x => piecesOf p f x.1 x.2) ++ (((l.zip (l.drop 1)).drop t).flatMap fun x => piecesOf p f x.1 x.2) := by
    rw [← List.flatMap_append, e]
  rw [this, List.length_append]
  omega
theorem gcd_turn (a b : Nat) : Nat.gcd a b = Nat.gcd b (a % b) := by
  rw [Nat.gcd_comm a b, Nat.gcd_rec b a, Nat.gcd_comm]
end My
namespace My
open Sn90
/-! ## sums of some, as bits -/
theorem sums_zero : ∀ l : List Nat, 0 ∈ sums l
  | [] => List.mem_cons_self ..
  | _ :: r => List.mem_append_left _ (sums_zero r)
theorem sums_le : ∀ (l : List Nat) (d : Nat), d ∈ sums l → d ≤ l.sum
  | [], d, h => by
    have : d = 0 := List.mem_singleton.mp h
    omega
  | x :: r, d, h => by
    rw [List.sum_cons]
    rcases List.mem_append.mp h with z | z
    · have := sums_le r d z
      omega
    · obtain ⟨e, h1, h2⟩ := List.mem_map.mp z
      have := sums_le r e h1
      omega
theorem sums_cons {x : Nat} {r : List Nat} {d : Nat} : d ∈ sums (x :: r) ↔ d ∈ sums r ∨ ∃ e, e ∈ sums r ∧ x + e = d := by
  show d ∈ sums r ++ (sums r).map (fun y => x + y) ↔ _
  rw [List.mem_append, List.mem_map]
theorem sums_snoc : ∀ (l : List Nat) (x d : Nat), d ∈ sums (l ++ [x]) ↔ d ∈ sums l ∨ ∃ e, e ∈ sums l ∧ x + e = d
  | [], x, d => by
    rw [List.nil_append, sums_cons]
  | y :: l, x, d => by
    rw [List.cons_append, sums_cons, sums_snoc l x d, sums_cons]
    constructor
    · rintro ((h | ⟨e, h1, h2⟩) | ⟨e, h1, h2⟩)
      · exact .inl (.inl h)
      · exact .inr ⟨e, sums_cons.mpr (.inl h1), h2⟩
      · rcases (sums_snoc l x e).mp h1 with z | ⟨u, z1, z2⟩
        · exact .inl (.inr ⟨e, z, h2⟩)
        · exact .inr ⟨y + u, sums_cons.mpr (.inr ⟨u, z1, rfl⟩), by omega⟩
    · rintro ((h | ⟨e, h1, h2⟩) | ⟨e, h1, h2⟩)
      · exact .inl (.inl h)
      · exact .inr ⟨e, (sums_snoc l x e).mpr (.inl h1), h2⟩
      · rcases sums_cons.mp h1 with z | ⟨u, z1, z2⟩
        · exact .inl (.inr ⟨e, z, h2⟩)
        · exact .inr ⟨x + u, (sums_snoc l x _).mpr (.inr ⟨u, z1, rfl⟩), by omega⟩
theorem mask_succ (n : Nat) (P : Nat → Bool) : mask (n + 1) P = mask n P + (if P (n + 1) = true then 2 ^ (n + 1) else 0) := by
  unfold mask
  rw [List.range_succ, List.map_append, List.sum_append]
  simp
theorem mask_lt (n : Nat) (P : Nat → Bool) : mask n P < 2 ^ (n + 1) := by
  induction n with
  | zero =>
    show (if P 0 = true then 2 ^ 0 else 0) + 0 < 2 ^ 1
    by_cases c : P 0 = true
    · rw [if_pos c]; decide
    · rw [if_neg c]; decide
  | succ n ih =>
    rw [mask_succ, Nat.pow_succ 2 (n + 1)]
    by_cases c : P (n + 1) = true
    · rw [if_pos c]; omega
    · rw [if_neg c]; omega
theorem mask_bit (n : Nat) (P : Nat → Bool) (d : Nat) : (mask n P).testBit d = (decide (d ≤ n) && P d) := by
  induction n with
  | zero =>
    show ((if P 0 = true then 2 ^ 0 else 0) + 0).testBit d = _
    cases d with
    | zero =>
      by_cases c : P 0 = true
      · rw [if_pos c, c]; rfl
      · rw [if_neg c, Bool.eq_false_iff.mpr c]; rfl
    | succ d =>
      have e : ((if P 0 = true then 2 ^ 0 else 0) + 0) < 2 ^ (d + 1) := by
        have := Nat.one_lt_two_pow (n := d + 1) (by omega)
        by_cases c : P 0 = true
        · rw [if_pos c]; omega
        · rw [if_neg c]; omega
      rw [Nat.testBit_lt_two_pow e, decide_eq_false (by omega), Bool.false_and]
  | succ n ih =>
    rw [mask_succ]
    by_cases c : P (n + 1) = true
    · rw [if_pos c, Nat.add_comm, ← Nat.mul_one (2 ^ (n + 1)), Nat.two_pow_add_eq_or_of_lt (mask_lt n P), Nat.testBit_or, Nat.mul_one, ih, Nat.testBit_two_pow]
      by_cases e : d = n + 1
      · subst e
        rw [c, decide_eq_true rfl, decide_eq_true (Nat.le_refl _)]
        rfl
      · rw [decide_eq_false (fun z => e z.symm), Bool.false_or]
        by_cases h : d ≤ n
        · rw [decide_eq_true h, decide_eq_true (by omega : d ≤ n + 1)]
        · rw [decide_eq_false h, decide_eq_false (by omega : ¬ d ≤ n + 1)]
    · rw [if_neg c, Nat.add_zero, ih]
      by_cases e : d = n + 1
      · subst e
        rw [Bool.eq_false_iff.mpr c, Bool.and_false, Bool.and_false]
      · by_cases h : d ≤ n
        · rw [decide_eq_true h, decide_eq_true (by omega : d ≤ n + 1)]
        · rw [decide_eq_false h, decide_eq_false (by omega : ¬ d ≤ n + 1)]
/-- the marks tell the sums of these -/
def Marks (l : List Nat) (m : Nat) : Prop := ∀ d : Nat, m.testBit d = true ↔ d ∈ sums l
theorem marks_start : Marks [] 1 := fun d => by
  show Nat.testBit 1 d = true ↔ d ∈ [0]
  rw [List.mem_singleton]
  cases d with
  | zero => exact ⟨fun _ => rfl, fun _ => rfl⟩
  | succ d =>
    rw [Nat.testBit_lt_two_pow (Nat.one_lt_two_pow (by omega))]
    exact ⟨fun z => Bool.noConfusion z, fun z => by omega⟩
theorem marks_step {l : List Nat} {m x : Nat} (M : Marks l m) : Marks (l ++ [x]) (m ||| m * 2 ^ x) := fun d => by
  rw [← Nat.shiftLeft_eq, Nat.testBit_or, Bool.or_eq_true, Nat.testBit_shiftLeft, Bool.and_eq_true, sums_snoc, M d, M (d - x)]
  constructor
  · rintro (h | ⟨h1, h2⟩)
    · exact .inl h
    · have := of_decide_eq_true h1
      exact .inr ⟨d - x, h2, by omega⟩
  · rintro (h | ⟨e, h1, h2⟩)
    · exact .inl h
    · have z : d - x = e := by omega
      exact .inr ⟨decide_eq_true (by omega), by rw [z]; exact h1⟩
theorem marks_lt {l : List Nat} {m n : Nat} (M : Marks l m) (h : l.sum ≤ n) : m < 2 ^ (n + 1) := by
  refine Nat.lt_pow_two_of_testBit m fun i hi => ?_
  refine Bool.eq_false_iff.mpr fun z => ?_
  have := sums_le l i ((M i).mp z)
  omega
theorem marks_end {p : Nat} {f : List Int} {m : Nat} (M : Marks (pieces p f) m) (hf : f.length ≠ 0) (hn : coef f (f.length - 1) ≠ 0) : m = parts p f := by
  refine Nat.eq_of_testBit_eq fun d => ?_
  unfold parts
  rw [mask_bit]
  refine Bool.eq_iff_iff.mpr ?_
  rw [M d, Bool.and_eq_true, List.contains_iff_mem]
  refine ⟨fun h => ⟨decide_eq_true ?_, h⟩, fun h => h.2⟩
  have := sums_le _ _ h
  rw [pieces_sum hf hn] at this
  exact this
theorem take_sum : ∀ (l : List Nat) (t : Nat), (l.take t).sum ≤ l.sum
  | [], t => by rw [List.take_nil]; exact Nat.le_refl _
  | x :: r, 0 => Nat.zero_le _
  | x :: r, t + 1 => by
    have := take_sum r t
    rw [List.take_succ_cons, List.sum_cons, List.sum_cons]
    omega
theorem mem_le_sum : ∀ (l : List Nat) (x : Nat), x ∈ l → x ≤ l.sum
  | [], _, h => absurd h List.not_mem_nil
  | y :: r, x, h => by
    rw [List.sum_cons]
    rcases List.mem_cons.mp h with z | z
    · omega
    · have := mem_le_sum r x z
      omega
end My
namespace My
open PySem PySem.Spec PyProof.Rows L2
/-! ## the text by its places -/
def top (i : Nat) : Stmt := PySem.Challenge.pw_unparted_s04_parts.main.body.getD i (.Pass ⟨0, 0, 0, 0⟩)
abbrev sPrime : Stmt := top 1
abbrev sCount : Stmt := top 2
abbrev sPoints : Stmt := top 3
abbrev sRises : Stmt := top 4
abbrev sNext : Stmt := top 5
abbrev sFind : Stmt := top 6
abbrev sGcd : Stmt := top 7
abbrev sFPieces : Stmt := top 8
abbrev sMark : Stmt := top 9
abbrev sRefuse : Stmt := top 11
abbrev sParts : Stmt := top 12
end My
namespace My
open PySem PySem.Spec PyProof.Rows L2
open PySem.W (Codec)
/-! ## is_prime: True just where the specification's primeOk says so; nothing is made, nothing changed -/
theorem same_new {H : Hp} {p : Addr} (h : H p = none) (o : HO) : Same H (upd H p o) := fun b u q => by rw [upd_ne (ne_of_none q h)]; exact q
def spPrime : Sp := fun vs H Q _ => ∃ p : Int, vs = [.int p] ∧ 0 ≤ p ∧ Q (.bl (Sn90.primeOk p.toNat)) H
/-- count_divisions: of a number that isn't 0, by a prime -/
def spCount : Sp := fun vs H Q _ => ∃ p z : Int, vs = [.int p, .int z] ∧ 2 ≤ p ∧ p < 65536 ∧ z ≠ 0 ∧ Q (.int (Sn90.height p.toNat z : Nat)) H
section
variable {P : Program} {w : World} {K : PySem.W.Frag} {mg : Str → Option Value} {base : Heap}
theorem scPrime : FnScope ["p", "divisor"] ["p"] (defScope sPrime) := ⟨rfl, rfl, rfl, by decide +kernel, rfl, by decide +kernel, by decide +kernel⟩
theorem ok_prime {f : Addr} {fd : FuncData} (F : Fun K "is_prime" "is_prime" sPrime f fd) : FnOk P w K mg base CX0 1 f fd ["p"] spPrime := by
  refine F.ok scPrime (fun vs H Q E h => ?_) (fun cdv A outer s H vs Q E hr h => ?_)
  · obtain ⟨p, rfl, _⟩ := h
    rfl
  · obtain ⟨p, rfl, h0, q⟩ := h
    refine ⟨_, pss_cons (ps_if (PW.pt (pw_or (pt_cmpR op_lt (pv 0) pe_int (nomark _)) (pw_or1 (pt_cmpR op_gt (pv 0) pe_int (nomark _))))) (pss_one (ps_ret pe_bl)) pss_nil)
      (pss_cons (ps_set (i := 1) scPrime.nd rfl (.inl rfl) pe_int)
      (pss_cons (ps_while PassesOwn.never (pt_cmpR op_le (pe_op op_mul (pv 1) (pv 1)) (pv 0) (nomark _))
        (pss_cons (ps_if (pt_cmpR op_eq (pe_op op_modN (pv 0) (pv 1)) pe_int (nomark _)) (pss_one (ps_ret pe_bl)) pss_nil)
          (pss_one (ps_aug (i := 1) scPrime.nd rfl (.inl rfl) pe_int ip_add))))
      (pss_one (ps_ret pe_bl)))), ?_⟩
    refine ⟨_, rfl, _, _, rfl, rfl, _, rfl, ite2 (fun c => iteT ?_) (fun c => ⟨_, rfl, _, _, rfl, rfl, _, rfl, ite2 (fun c2 => ?_) (fun c2 => ?_)⟩)⟩
    · have c' : p < 2 := of_decide_eq_true c
      have e := ip_small h0 c'
      rw [e] at q
      exact q
    · have c' : 65535 < p := of_decide_eq_true c2
      have e := ip_large c'
      rw [e] at q
      exact q
    · have c1' : ¬ p < 2 := fun z => c (decide_eq_true z)
      have c2' : ¬ 65535 < p := fun z => c2 (decide_eq_true z)
      refine ⟨fun m σ H' => ∃ d : Int, σ = [some (.int p), some (.int d)] ∧ H' = H ∧ 2 ≤ d ∧ d ≤ 256 ∧ (∀ e : Nat, 2 ≤ e → (e : Int) < d → p.toNat % e ≠ 0) ∧ m = (300 - d).toNat,
        ⟨_, 2, rfl, rfl, by omega, by omega, fun e h1 h2 => by omega, rfl⟩, ?_⟩
      rintro m σ H' ⟨d, rfl, rfl, hd2, hd, hno, rfl⟩
      refine ⟨_, rfl, _, rfl, _, _, rfl, rfl, .inl ⟨by omega, by omega⟩, _, rfl, _, _, rfl, rfl, _, rfl, ite2 (fun c3 => ?_) (fun c3 => ?_)⟩
      · have c3' : d * d ≤ p := of_decide_eq_true c3
        have hd3 : d ≤ 255 := by
          rcases Int.lt_or_le 255 d with l | g
          · have : 256 * 256 ≤ d * d := Int.mul_le_mul (by omega) (by omega) (by omega) (by omega)
            omega
          · exact g
        refine ⟨fun σ' H'' => σ' = [some (.int p), some (.int (d + 1))] ∧ H'' = H' ∧ p.fmod d ≠ 0, ?_, ?_⟩
        · rintro σ' H'' ⟨rfl, rfl, hm⟩
          refine ⟨(300 - (d + 1)).toNat, by omega, d + 1, rfl, rfl, by omega, by omega, fun e h1 h2 => ?_, rfl⟩
          by_cases ed : (e : Int) = d
          · intro z
            apply hm
            rw [mod_nat p d (by omega) (by omega), ← ed, Int.toNat_natCast, z]
            rfl
          · exact hno e h1 (by omega)
        · refine ⟨_, rfl, _, rfl, _, _, rfl, rfl, (by omega : d ≠ 0), rfl, _, rfl, ite2 (fun c4 => ?_) (fun c4 => ?_)⟩
          · have c4' : p.fmod d = 0 := V.int.inj (of_decide_eq_true c4)
            have e := ip_no hd2 c3' c4'
            rw [e] at q
            exact q
          · exact ⟨_, rfl, _, _, rfl, rfl, rfl, rfl, fun z => c4 (decide_eq_true (congrArg V.int z))⟩
      · have c3' : ¬ d * d ≤ p := fun z => c3 (decide_eq_true z)
        have e := ip_yes (by omega) (by omega) hd2 c3' hno
        rw [e] at q
        exact q
/-! ## count_divisions -/
theorem scCount : FnScope ["p", "z", "times", "rest"] ["p", "z"] (defScope sCount) := ⟨rfl, rfl, rfl, by decide +kernel, rfl, by decide +kernel, by decide +kernel⟩
theorem ok_count {f : Addr} {fd : FuncData} (F : Fun K "count_divisions" "count_divisions" sCount f fd) : FnOk P w K mg base CX0 1 f fd ["p", "z"] spCount := by
  refine F.ok scCount (fun vs H Q E h => ?_) (fun cdv A outer s H vs Q E hr h => ?_)
  · obtain ⟨p, z, rfl, _⟩ := h
    rfl
  · obtain ⟨p, z, rfl, h2, hp, hz, q⟩ := h
    refine ⟨_, pss_cons (ps_set (i := 2) scCount.nd rfl (.inl rfl) pe_int)
      (pss_cons (ps_set (i := 3) scCount.nd rfl (.inl rfl) (pv 1))
      (pss_cons (ps_while PassesOwn.never (pt_cmpR op_eq (pe_op op_modN (pv 3) (pv 0)) pe_int (nomark _))
        (pss_cons (ps_set (i := 3) scCount.nd rfl (.inl rfl) (pe_op op_fdivN (pv 3) (pv 0)))
          (pss_one (ps_aug (i := 2) scCount.nd rfl (.inl rfl) pe_int ip_add))))
      (pss_one (ps_ret (pv 2))))), ?_⟩
    refine ⟨_, rfl, fun m σ H' => ∃ r : Int, ∃ t : Nat, σ = [some (.int p), some (.int z), some (.int t), some (.int r)] ∧ H' = H ∧ r ≠ 0 ∧ t + Sn90.height p.toNat r = Sn90.height p.toNat z ∧ m = r.natAbs,
      ⟨_, z, 0, rfl, rfl, hz, Nat.zero_add _, rfl⟩, ?_⟩
    rintro m σ H' ⟨r, t, rfl, rfl, hr0, ht, rfl⟩
    refine ⟨_, rfl, _, rfl, _, _, rfl, rfl, (by omega : p ≠ 0), rfl, _, rfl, ite2 (fun c => ?_) (fun c => ?_)⟩
    · have c' : r.fmod p = 0 := V.int.inj (of_decide_eq_true c)
      obtain ⟨e1, e2, e3⟩ := height_yes h2 hr0 c'
      refine ⟨fun σ' H'' => σ' = [some (.int p), some (.int z), some (.int ((t : Int) + 1)), some (.int (r.fdiv p))] ∧ H'' = H', ?_, ?_⟩
      · rintro σ' H'' ⟨rfl, rfl⟩
        exact ⟨_, e3, r.fdiv p, t + 1, rfl, rfl, e2, by omega, rfl⟩
      · exact ⟨_, rfl, _, rfl, _, _, rfl, rfl, ⟨by omega, by omega⟩, _, rfl, _, _, rfl, rfl, rfl, rfl⟩
    · have c' : ¬ r.fmod p = 0 := fun z => c (decide_eq_true (congrArg V.int z))
      have e := height_no h2 c'
      have et : t = Sn90.height p.toNat z := by omega
      rw [← et] at q
      exact ⟨_, rfl, q⟩
end
end My
namespace My
open PySem PySem.Spec PyProof.Rows L2
open PySem.W (Codec)
/-! ## points as tuples in the heap: at the places ks stand as -/
def tupOf (p : Nat) (f : List Int) (k : Nat) : HO := .tup [.int (k : Int), .int (Sn90.at_ p f k)]
structure TupsAt (p : Nat) (f : List Int) (H : Hp) (ks : List Nat) (as : List Addr) : Prop where
  len : as.length = ks.length
  at_ : ∀ (j k : Nat), ks[j]? = some k → ∃ a, as[j]? = some a ∧ H a = some (tupOf p f k)
theorem TupsAt.same {p : Nat} {f : List Int} {H H' : Hp} {ks : List Nat} {as : List Addr} (T : TupsAt p f H ks as) (s : Same H H') : TupsAt p f H' ks as :=
  ⟨T.len, fun j k h => by obtain ⟨a, h1, h2⟩ := T.at_ j k h; exact ⟨a, h1, s _ _ h2⟩⟩
theorem TupsAt.nil {p : Nat} {f : List Int} {H : Hp} : TupsAt p f H [] [] := ⟨rfl, fun j k h => by simp at h⟩
theorem TupsAt.snoc {p : Nat} {f : List Int} {H : Hp} {ks : List Nat} {as : List Addr} {k : Nat} {a : Addr} (T : TupsAt p f H ks as) (h : H a = some (tupOf p f k)) : TupsAt p f H (ks ++ [k]) (as ++ [a]) := by
  refine ⟨by rw [List.length_append, List.length_append, T.len]; rfl, fun j k' hk => ?_⟩
  rcases Nat.lt_or_ge j ks.length with l | g
  · rw [List.getElem?_append_left l] at hk
    obtain ⟨b, h1, h2⟩ := T.at_ j k' hk
    exact ⟨b, by rw [List.getElem?_append_left (by rw [T.len]; exact l)]; exact h1, h2⟩
  · rw [List.getElem?_append_right g] at hk
    have e : j - ks.length = 0 := by
      have := (List.getElem?_eq_some_iff.mp hk).1
      rw [List.length_singleton] at this
      omega
    rw [e] at hk
    have e2 : k = k' := Option.some.inj hk
    subst e2
    exact ⟨a, by rw [List.getElem?_append_right (by rw [T.len]; exact g), T.len, e]; rfl, h⟩
/-- what is changed is no tuple -/
theorem TupsAt.upd {p : Nat} {f : List Int} {H : Hp} {ks : List Nat} {as : List Addr} {r : Addr} {xs : List V} {o : HO} (T : TupsAt p f H ks as) (hr : H r = some (.lst xs)) : TupsAt p f (upd H r o) ks as := by
  refine ⟨T.len, fun j k h => ?_⟩
  obtain ⟨a, h1, h2⟩ := T.at_ j k h
  exact ⟨a, h1, by rw [upd_ne (ne_of h2 hr (by intro z; cases z))]; exact h2⟩
theorem TupsAt.ref {p : Nat} {f : List Int} {H : Hp} {ks : List Nat} {as : List Addr} {j k : Nat} (T : TupsAt p f H ks as) (h : ks[j]? = some k) : ∃ a, (as.map V.ref)[j]? = some (.ref a) ∧ as[j]? = some a ∧ H a = some (tupOf p f k) := by
  obtain ⟨a, h1, h2⟩ := T.at_ j k h
  exact ⟨a, by rw [List.getElem?_map, h1]; rfl, h1, h2⟩
theorem same_put {H0 H : Hp} {r : Addr} {o : HO} (s : Same H0 H) (h : H0 r = none) : Same H0 (upd H r o) := fun b u e => by
  rw [upd_ne (ne_of_none e h)]
  exact s _ _ e
theorem coef_at {f : List Int} {k : Nat} (h : k < f.length) : (f.map V.int)[k]? = some (.int (Sn90.coef f k)) := by
  unfold Sn90.coef
  rw [List.getElem?_map, List.getD_eq_getElem?_getD, List.getElem?_eq_getElem h]
  rfl
/-! ## the promises -/
def spPoints (K : PySem.W.Frag) : Sp := fun vs H Q _ => ∃ (p : Int) (a : Addr) (f : List Int), vs = [.int p, .ref a] ∧ SqL K H a (f.map V.int) ∧ 2 ≤ p ∧ p < 65536 ∧ f.length ≤ 25 ∧
  ∀ (H' : Hp) (r : Addr) (as : List Addr), Same H H' → H' r = some (.lst (as.map V.ref)) → TupsAt p.toNat f H' (places f) as → Q (.ref r) H'
def spRises : Sp := fun vs H Q _ => ∃ (a b c : Addr) (x1 y1 x2 y2 x3 y3 : Int), vs = [.ref a, .ref b, .ref c] ∧ H a = some (.tup [.int x1, .int y1]) ∧ H b = some (.tup [.int x2, .int y2]) ∧ H c = some (.tup [.int x3, .int y3]) ∧
  (0 ≤ x1 ∧ x1 ≤ 1000) ∧ (0 ≤ x2 ∧ x2 ≤ 1000) ∧ (0 ≤ x3 ∧ x3 ≤ 1000) ∧ Q (.int ((y2 - y1) * (x3 - x1) - (y3 - y1) * (x2 - x1))) H
def spNext : Sp := fun vs H Q _ => ∃ (q : Addr) (j : Nat) (p : Nat) (f : List Int) (as : List Addr), vs = [.ref q, .int (j : Int)] ∧ H q = some (.lst (as.map V.ref)) ∧ TupsAt p f H (places f) as ∧ j + 1 < (places f).length ∧ f.length ≤ 25 ∧
  ∀ (b i : Nat), j < b → (places f)[j]? = some i → (places f)[b]? = some (Sn90.next p f i) → Q (.int (b : Int)) H
def spFind : Sp := fun vs H Q _ => ∃ (q : Addr) (p : Nat) (f : List Int) (as : List Addr), vs = [.ref q] ∧ H q = some (.lst (as.map V.ref)) ∧ TupsAt p f H (places f) as ∧ f.length ≠ 0 ∧ f.length ≤ 25 ∧ Sn90.coef f 0 ≠ 0 ∧ Sn90.coef f (f.length - 1) ≠ 0 ∧
  ∀ (H' : Hp) (r : Addr) (bs : List Addr), Same H H' → H' r = some (.lst (bs.map V.ref)) → TupsAt p f H' (Sn90.corners p f) bs → bs.length ≤ 25 → Q (.ref r) H'
section
variable {P : Program} {w : World} {K : PySem.W.Frag} {mg : Str → Option Value} {base : Heap}
/-! ## find_points -/
theorem scPoints : FnScope ["p", "f", "points", "place"] ["p", "f"] (defScope sPoints) := ⟨rfl, rfl, rfl, by decide +kernel, rfl, by decide +kernel, by decide +kernel⟩
theorem ok_points {f fC : Addr} {fd fdC : FuncData} (F : Fun K "find_points" "find_points" sPoints f fd) (FC : Fun K "count_divisions" "count_divisions" sCount fC fdC) (bC : Binds K fdC ["p", "z"] []) (gC : mg "count_divisions" = some (.ref fC))
    (ml : mg "len" = none) (mr : mg "range" = none) : FnOk P w K mg base CX0 2 f fd ["p", "f"] (spPoints K) := by
  have GC : FnOk P w K mg base CX0 1 fC fdC ["p", "z"] spCount := ok_count FC
  refine F.ok scPoints (fun vs H Q E h => ?_) (fun cdv A outer s H vs Q E hr h => ?_)
  · obtain ⟨p, a, f, rfl, _⟩ := h
    rfl
  · obtain ⟨p, a, f, rfl, hS, h2, hp, hlen, q⟩ := h
    refine ⟨_, pss_cons (ps_set (i := 2) scPoints.nd rfl (.inl rfl) (pe_lst pa_nil))
      (pss_cons (ps_for PassesOwn.never rfl (pi_range1 rfl mr (pa_cons (pe_callB call_len_seq (by rfl) ml PySem.boot_len (pa_cons (pv 1) pa_nil)) pa_nil)) (pg_name (i := 3) scPoints.nd rfl (.inl rfl))
        (pss_one (ps_if (pt_cmpR op_ne (pe_ix ix_list (pv 1) (pv 3) (fun _ _ => rfl)) pe_int (nomark _))
          (pss_one (ps_expr (pe_bm PySem.F.plainAttrs_list PySem.F.slot_list_append PySem.F.type_list_append mt_append (pv 2)
            (pa_cons (pe_tup (pa_cons (pv 3) (pa_cons (pe_call GC hr (by rfl) gC FC.kp bC .nil pass0 (pa_cons (pv 0) (pa_cons (pe_ix ix_list (pv 1) (pv 3) (fun _ _ => rfl)) pa_nil))) pa_nil))) pa_nil)))) pss_nil)))
      (pss_one (ps_ret (pv 2)))), ?_⟩
    have hl : (f.map V.int).length = f.length := List.length_map _
    refine ⟨Nat.zero_le _, fun r hr0 => ?_⟩
    have s1 : Same H (upd H r (.lst [])) := same_new hr0 _
    refine ⟨_, rfl, a, _, rfl, .inl (s1.seq hS), _, rfl, by rw [hl]; omega, by rw [hl]; omega, for_range (lo := 0) (n := (((f.map V.int).length : Nat) : Int).toNat) (fun i σ H' => ∃ (v3 : Option V) (as : List Addr), σ = [some (.int p), some (.ref a), some (.ref r), v3] ∧ Same H H' ∧ H' r = some (.lst (as.map V.ref)) ∧
      TupsAt p.toNat f H' ((List.range i).filter fun k => Sn90.coef f k != 0) as)
      ⟨none, [], rfl, s1, upd_same, .nil⟩ ?_ ?_⟩
    · rintro i σ H' hi ⟨v3, as, rfl, s2, hr', T⟩
      rw [hl, Int.toNat_natCast] at hi
      have hg : atI (f.map V.int) (0 + (i : Int)) = some (.int (Sn90.coef f i)) := at_of (by omega) (coef_at hi)
      have hlen2 := places_len f i
      refine ⟨_, rfl, _, rfl, a, _, _, _, rfl, rfl, s2.seq hS, hg, rfl, _, rfl, ite2 (fun c => ?_) (fun c => ?_)⟩
      · have c' : Sn90.coef f i ≠ 0 := fun z => by
          rw [z] at c
          exact absurd c (by decide)
        refine ⟨_, rfl, .inl ⟨rfl, _, SqL.of hr'⟩, _, rfl, _, rfl, _, rfl, _, rfl, a, _, _, _, rfl, rfl, s2.seq hS, hg, p, _, rfl, h2, hp, c', (by show 2 ≤ sizeLine; decide), fun t ht => ?_⟩
        have hrt : r ≠ t := ne_of_none hr' ht
        refine ⟨r, _, _, rfl, rfl, by rw [upd_ne hrt]; exact hr', small1000 (by rw [List.length_map, T.len]; omega), ?_⟩
        have s3 : Same H' (upd H' t (.tup [.int (0 + (i : Int)), .int (Sn90.height p.toNat (Sn90.coef f i) : Nat)])) := same_new ht _
        refine ⟨_, as ++ [t], rfl, same_put (s2.trans s3) hr0, ?_, ?_⟩
        · rw [upd_same, List.map_append]
          rfl
        · rw [places_take_yes c']
          have e : upd H' t (.tup [.int (0 + (i : Int)), .int (Sn90.height p.toNat (Sn90.coef f i) : Nat)]) t = some (tupOf p.toNat f i) := by
            rw [upd_same, Int.zero_add]
            rfl
          exact ((T.same s3).snoc e).upd (by rw [upd_ne hrt]; exact hr')
      · have c' : Sn90.coef f i = 0 := by
          by_cases z : Sn90.coef f i = 0
          · exact z
          · refine absurd ?_ c
            rw [decide_eq_false (fun y => z (V.int.inj y))]
            rfl
        refine ⟨_, as, rfl, s2, hr', ?_⟩
        rw [places_take_no c']
        exact T
    · rintro σ H' ⟨v3, as, rfl, s2, hr', T⟩
      rw [hl, Int.toNat_natCast] at T
      exact ⟨_, rfl, q H' r as s2 hr' T⟩
/-! ## compare_rises -/
theorem scRises : FnScope ["corner", "point", "other", "rise", "other_rise"] ["corner", "point", "other"] (defScope sRises) := ⟨rfl, rfl, rfl, by decide +kernel, rfl, by decide +kernel, by decide +kernel⟩
theorem ok_rises {f : Addr} {fd : FuncData} (F : Fun K "compare_rises" "compare_rises" sRises f fd) : FnOk P w K mg base CX0 1 f fd ["corner", "point", "other"] spRises := by
  refine F.ok scRises (fun vs H Q E h => ?_) (fun cdv A outer s H vs Q E hr h => ?_)
  · obtain ⟨a, b, c, x1, y1, x2, y2, x3, y3, rfl, _⟩ := h
    rfl
  · obtain ⟨a, b, c, x1, y1, x2, y2, x3, y3, rfl, ha, hb, hc, ⟨l1, u1⟩, ⟨l2, u2⟩, ⟨l3, u3⟩, q⟩ := h
    refine ⟨_, pss_cons (ps_set (i := 3) scRises.nd rfl (.inl rfl) (pe_op op_mul (pe_op op_sub (pe_ix ix_tup (pv 1) pe_int (fun _ _ => rfl)) (pe_ix ix_tup (pv 0) pe_int (fun _ _ => rfl))) (pe_op op_sub (pe_ix ix_tup (pv 2) pe_int (fun _ _ => rfl)) (pe_ix ix_tup (pv 0) pe_int (fun _ _ => rfl)))))
      (pss_cons (ps_set (i := 4) scRises.nd rfl (.inl rfl) (pe_op op_mul (pe_op op_sub (pe_ix ix_tup (pv 2) pe_int (fun _ _ => rfl)) (pe_ix ix_tup (pv 0) pe_int (fun _ _ => rfl))) (pe_op op_sub (pe_ix ix_tup (pv 1) pe_int (fun _ _ => rfl)) (pe_ix ix_tup (pv 0) pe_int (fun _ _ => rfl)))))
      (pss_one (ps_ret (pe_op op_sub (pv 3) (pv 4))))), ?_⟩
    refine ⟨_, rfl, b, _, _, _, rfl, rfl, SqT.of hb, atI_nat (j := 1) rfl, _, rfl, a, _, _, _, rfl, rfl, SqT.of ha, atI_nat (j := 1) rfl, _, _, rfl, rfl,
      _, rfl, c, _, _, _, rfl, rfl, SqT.of hc, atI_nat (j := 0) rfl, _, rfl, a, _, _, _, rfl, rfl, SqT.of ha, atI_nat (j := 0) rfl, _, _, rfl, rfl, _, _, rfl, rfl, .inr ⟨by omega, by omega⟩, ?_⟩
    refine ⟨_, rfl, c, _, _, _, rfl, rfl, SqT.of hc, atI_nat (j := 1) rfl, _, rfl, a, _, _, _, rfl, rfl, SqT.of ha, atI_nat (j := 1) rfl, _, _, rfl, rfl,
      _, rfl, b, _, _, _, rfl, rfl, SqT.of hb, atI_nat (j := 0) rfl, _, rfl, a, _, _, _, rfl, rfl, SqT.of ha, atI_nat (j := 0) rfl, _, _, rfl, rfl, _, _, rfl, rfl, .inr ⟨by omega, by omega⟩, ?_⟩
    exact ⟨_, rfl, _, rfl, _, _, rfl, rfl, q⟩
/-! ## find_next_corner -/
theorem scNext : FnScope ["points", "at", "best", "k"] ["points", "at"] (defScope sNext) := ⟨rfl, rfl, rfl, by decide +kernel, rfl, by decide +kernel, by decide +kernel⟩
theorem ok_next {f fR : Addr} {fd fdR : FuncData} (F : Fun K "find_next_corner" "find_next_corner" sNext f fd) (FR : Fun K "compare_rises" "compare_rises" sRises fR fdR) (bR : Binds K fdR ["corner", "point", "other"] []) (gR : mg "compare_rises" = some (.ref fR))
    (ml : mg "len" = none) (mr : mg "range" = none) : FnOk P w K mg base CX0 2 f fd ["points", "at"] spNext := by
  have GR : FnOk P w K mg base CX0 1 fR fdR ["corner", "point", "other"] spRises := ok_rises FR
  refine F.ok scNext (fun vs H Q E h => ?_) (fun cdv A outer s H vs Q E hr h => ?_)
  · obtain ⟨q, j, p, f, as, rfl, _⟩ := h
    rfl
  · obtain ⟨l, j, p, f, as, rfl, hl, T, hj, hlen, q⟩ := h
    refine ⟨_, pss_cons (ps_set (i := 2) scNext.nd rfl (.inl rfl) (pe_op op_add (pv 1) pe_int))
      (pss_cons (ps_for PassesOwn.never rfl (pi_range2 rfl mr (pa_cons (pe_op op_add (pv 1) pe_int) (pa_cons (pe_callB call_len_seq (by rfl) ml PySem.boot_len (pa_cons (pv 0) pa_nil)) pa_nil))) (pg_name (i := 3) scNext.nd rfl (.inl rfl))
        (pss_one (ps_if (pt_cmpR op_le (pe_call GR hr (by rfl) gR FR.kp bR .nil pass0 (pa_cons (pe_ix ix_list (pv 0) (pv 1) (fun _ _ => rfl)) (pa_cons (pe_ix ix_list (pv 0) (pv 3) (fun _ _ => rfl)) (pa_cons (pe_ix ix_list (pv 0) (pv 2) (fun _ _ => rfl)) pa_nil)))) pe_int (nomark _))
          (pss_one (ps_set (i := 2) scNext.nd rfl (.inl rfl) (pv 3))) pss_nil)))
      (pss_one (ps_ret (pv 2)))), ?_⟩
    have hpl : (places f).length ≤ f.length := places_len f f.length
    have hal : (as.map V.ref).length = (places f).length := by rw [List.length_map, T.len]
    obtain ⟨i, hi⟩ : ∃ i, (places f)[j]? = some i := ⟨_, List.getElem?_eq_getElem (by omega)⟩
    have hif := (places_mem.mp (List.mem_of_getElem? hi)).1
    obtain ⟨ai, gi, _, ti⟩ := T.ref hi
    refine ⟨_, rfl, _, _, rfl, rfl, _, rfl, _, _, rfl, rfl, _, rfl, l, _, rfl, .inl (SqL.of hl), _, _, rfl, ⟨by omega, by omega, by rw [hal]; omega, by rw [hal]; omega⟩,
      for_range (lo := (j : Int) + 2) (n := ((((as.map V.ref).length : Nat) : Int) - ((j : Int) + 2)).toNat) (fun t σ H' => ∃ (b : Nat) (v3 : Option V), σ = [some (.ref l), some (.int (j : Int)), some (.int (b : Int)), v3] ∧ H' = H ∧ BestAt p f j i (t + 1) b)
      ⟨j + 1, none, rfl, rfl, best_start hj⟩ ?_ ?_⟩
    · rintro t σ H' ht ⟨b, v3, rfl, rfl, B⟩
      rw [hal] at ht
      obtain ⟨k, hk⟩ : ∃ k, (places f)[j + 1 + (t + 1)]? = some k := ⟨_, List.getElem?_eq_getElem (by omega)⟩
      obtain ⟨m, hm⟩ : ∃ m, (places f)[b]? = some m := ⟨_, B.2⟩
      have hkf := (places_mem.mp (List.mem_of_getElem? hk)).1
      have hmf := (places_mem.mp (List.mem_of_getElem? hm)).1
      obtain ⟨ak, gk, _, tk⟩ := T.ref hk
      obtain ⟨am, gm, _, tm⟩ := T.ref hm
      have st := best_step hi hk hm B
      refine ⟨_, rfl, _, rfl, l, _, _, _, rfl, rfl, SqL.of hl, atI_nat gi, _, rfl, _, rfl, l, _, _, _, rfl, rfl, SqL.of hl, at_of (j := j + 1 + (t + 1)) (by omega) gk, _, rfl, _, rfl, l, _, _, _, rfl, rfl, SqL.of hl, atI_nat gm,
        ai, ak, am, _, _, _, _, _, _, rfl, ti, tk, tm, ⟨by omega, by omega⟩, ⟨by omega, by omega⟩, ⟨by omega, by omega⟩, _, _, rfl, rfl, _, rfl, ite2 (fun c => ?_) (fun c => ?_)⟩
      · have c' : Sn90.flatter p f i k m = true := by rw [flat_iff]; exact c
        refine ⟨_, rfl, j + 1 + (t + 1), some (.int ((j : Int) + 2 + (t : Int))), ?_, rfl, st.1 c'⟩
        show [some (V.ref l), some (V.int (j : Int)), some (V.int ((j : Int) + 2 + (t : Int))), some (V.int ((j : Int) + 2 + (t : Int)))] = _
        rw [show (((j + 1 + (t + 1) : Nat) : Int)) = (j : Int) + 2 + (t : Int) by omega]
      · have c' : Sn90.flatter p f i k m = false := by rw [flat_iff]; exact Bool.eq_false_iff.mpr c
        exact ⟨b, _, rfl, rfl, st.2 c'⟩
    · rintro σ H' ⟨b, v3, rfl, rfl, B⟩
      rw [hal] at B
      refine ⟨_, rfl, q b i B.1 hi (best_end hi ?_ B)⟩
      omega
/-! ## find_corners -/
theorem scFind : FnScope ["points", "at", "found"] ["points"] (defScope sFind) := ⟨rfl, rfl, rfl, by decide +kernel, rfl, by decide +kernel, by decide +kernel⟩
theorem ok_find {f fN fR : Addr} {fd fdN fdR : FuncData} (F : Fun K "find_corners" "find_corners" sFind f fd) (FN : Fun K "find_next_corner" "find_next_corner" sNext fN fdN) (bN : Binds K fdN ["points", "at"] []) (gN : mg "find_next_corner" = some (.ref fN))
    (FR : Fun K "compare_rises" "compare_rises" sRises fR fdR) (bR : Binds K fdR ["corner", "point", "other"] []) (gR : mg "compare_rises" = some (.ref fR))
    (ml : mg "len" = none) (mr : mg "range" = none) : FnOk P w K mg base CX0 3 f fd ["points"] spFind := by
  have GN : FnOk P w K mg base CX0 2 fN fdN ["points", "at"] spNext := ok_next FN FR bR gR ml mr
  refine F.ok scFind (fun vs H Q E h => ?_) (fun cdv A outer s H vs Q E hr h => ?_)
  · obtain ⟨q, p, f, as, rfl, _⟩ := h
    rfl
  · obtain ⟨l, p, f, as, rfl, hl, T, hf0, hlen, hc0, hcn, q⟩ := h
    refine ⟨_, pss_cons (ps_set (i := 1) scFind.nd rfl (.inl rfl) pe_int)
      (pss_cons (ps_set (i := 2) scFind.nd rfl (.inl rfl) (pe_lst (pa_cons (pe_ix ix_list (pv 0) (pv 1) (fun _ _ => rfl)) pa_nil)))
      (pss_cons (ps_while PassesOwn.never (pt_cmpR op_lt (pv 1) (pe_op op_sub (pe_callB call_len_seq (by rfl) ml PySem.boot_len (pa_cons (pv 0) pa_nil)) pe_int) (nomark _))
        (pss_cons (ps_set (i := 1) scFind.nd rfl (.inl rfl) (pe_call GN hr (by rfl) gN FN.kp bN .nil pass0 (pa_cons (pv 0) (pa_cons (pv 1) pa_nil))))
          (pss_one (ps_expr (pe_bm PySem.F.plainAttrs_list PySem.F.slot_list_append PySem.F.type_list_append mt_append (pv 2) (pa_cons (pe_ix ix_list (pv 0) (pv 1) (fun _ _ => rfl)) pa_nil))))))
      (pss_one (ps_ret (pv 2))))), ?_⟩
    have hpl : (places f).length ≤ f.length := places_len f f.length
    have hal : (as.map V.ref).length = (places f).length := by rw [List.length_map, T.len]
    have hp0 := places_first hf0 hc0
    obtain ⟨a0, g0, _, t0⟩ := T.ref hp0
    refine ⟨_, rfl, _, rfl, l, _, _, _, rfl, rfl, SqL.of hl, atI_nat g0, (by show 1 ≤ sizeLine; decide), fun r hr0 => ?_⟩
    have s1 : Same H (upd H r (.lst [.ref a0])) := same_new hr0 _
    refine ⟨fun m σ H' => ∃ (j : Nat) (done : List Nat) (bs : List Addr), σ = [some (.ref l), some (.int (j : Int)), some (.ref r)] ∧ Same H H' ∧ H' r = some (.lst (bs.map V.ref)) ∧ TupsAt p f H' done bs ∧ Found p f j done ∧ bs.length ≤ j + 1 ∧ m = (places f).length - j,
      ⟨_, 0, [0], [a0], rfl, s1, upd_same, (TupsAt.nil.snoc (s1 _ _ t0)), found_start hp0, Nat.le_refl _, rfl⟩, ?_⟩
    rintro m σ H' ⟨j, done, bs, rfl, s2, hr', TB, FD, hbl, rfl⟩
    obtain ⟨i, hi⟩ := found_at FD
    have hjl : j < (places f).length := (List.getElem?_eq_some_iff.mp hi).1
    refine ⟨_, rfl, _, rfl, l, _, rfl, .inl (SqL.of (s2 _ _ hl)), _, _, rfl, rfl, _, _, rfl, rfl, _, rfl, ite2 (fun c => ?_) (fun c => ?_)⟩
    · have c' : (j : Int) < (((as.map V.ref).length : Nat) : Int) - 1 := of_decide_eq_true c
      rw [hal] at c'
      refine ⟨fun σ' H'' => ∃ (b : Nat) (bs' : List Addr), j < b ∧ b < (places f).length ∧ σ' = [some (.ref l), some (.int (b : Int)), some (.ref r)] ∧ Same H H'' ∧ H'' r = some (.lst (bs'.map V.ref)) ∧ TupsAt p f H'' (done ++ [Sn90.next p f i]) bs' ∧ Found p f b (done ++ [Sn90.next p f i]) ∧ bs'.length ≤ j + 2, ?_, ?_⟩
      · rintro σ' H'' ⟨b, bs', hjb, hbl', rfl, s3, hr3, T3, F3, hb3⟩
        exact ⟨(places f).length - b, by omega, b, _, bs', rfl, s3, hr3, T3, F3, by omega, rfl⟩
      · refine ⟨_, rfl, _, rfl, l, j, p, f, as, rfl, s2 _ _ hl, T.same s2, by omega, hlen, fun b i' hjb hi' hb => ?_⟩
        have ei : i = i' := Option.some.inj (hi.symm.trans hi')
        subst ei
        have hbn : b < (places f).length := (List.getElem?_eq_some_iff.mp hb).1
        obtain ⟨ab, gb, _, tb⟩ := T.ref hb
        refine ⟨_, rfl, .inl ⟨rfl, _, SqL.of hr'⟩, _, rfl, _, rfl, l, _, _, _, rfl, rfl, SqL.of (s2 _ _ hl), atI_nat gb, r, _, _, rfl, rfl, hr', small1000 (by rw [List.length_map]; omega), ?_⟩
        refine ⟨b, bs ++ [ab], hjb, hbn, rfl, same_put s2 hr0, ?_, ?_, found_step FD hf0 hcn (by omega) hi hb hjb, by rw [List.length_append, List.length_singleton]; omega⟩
        · rw [upd_same, List.map_append]
          rfl
        · exact (TB.snoc (s2 _ _ tb)).upd hr'
    · have c' : ¬ (j : Int) < (((as.map V.ref).length : Nat) : Int) - 1 := fun z => c (decide_eq_true z)
      rw [hal] at c'
      have e := found_end FD hf0 hcn (by omega)
      subst e
      exact ⟨_, rfl, q H' r bs s2 hr' TB (by omega)⟩
end
end My
namespace My
open PySem PySem.Spec PyProof.Rows L2
open PySem.W (Codec)
/-! ## refuse_polynomial -/
def refusal (n p : Int) (f : List Int) : Int := if Sn90.sizeOk n = false then -2 else if Sn90.good n f p.toNat = false then -3 else 0
theorem size_no {n : Int} (h : n < 1 ∨ 24 < n) : Sn90.sizeOk n = false := by
  unfold Sn90.sizeOk Sn90.between
  rw [Bool.and_eq_false_iff]
  rcases h with h | h
  · exact .inl (decide_eq_false (by omega))
  · exact .inr (decide_eq_false (by omega))
theorem size_yes {n : Int} (h1 : 1 ≤ n) (h2 : n ≤ 24) : Sn90.sizeOk n = true := by
  unfold Sn90.sizeOk Sn90.between
  rw [Bool.and_eq_true]
  exact ⟨decide_eq_true h1, decide_eq_true h2⟩
theorem size_in {n : Int} (h : Sn90.sizeOk n = true) : 1 ≤ n ∧ n ≤ 24 := by
  unfold Sn90.sizeOk Sn90.between at h
  rw [Bool.and_eq_true] at h
  exact ⟨of_decide_eq_true h.1, of_decide_eq_true h.2⟩
theorem good_eq {n : Int} {f : List Int} {q : Nat} (hn : 1 ≤ n) (h : (f.length : Int) = n + 1) : Sn90.good n f q = ((Sn90.coef f 0 != 0 && Sn90.coef f n.toNat != 0) && Sn90.primeOk q) := by
  unfold Sn90.good Sn90.fits
  rw [show (f.length == n.toNat + 1) = true by rw [beq_iff_eq]; omega, Bool.true_and]
theorem good_all {n : Int} {f : List Int} {q : Nat} (hn : 1 ≤ n) (h : (f.length : Int) = n + 1) (g : Sn90.good n f q = true) : Sn90.coef f 0 ≠ 0 ∧ Sn90.coef f n.toNat ≠ 0 ∧ Sn90.primeOk q = true := by
  rw [good_eq hn h, Bool.and_eq_true, Bool.and_eq_true, bne_iff_ne, bne_iff_ne] at g
  exact ⟨g.1.1, g.1.2, g.2⟩
def spRefuse (K : PySem.W.Frag) : Sp := fun vs H Q _ => ∃ (n p : Int) (a : Addr) (f : List Int), vs = [.int n, .int p, .ref a] ∧ SqL K H a (f.map V.int) ∧ 0 ≤ p ∧ (1 ≤ n → n ≤ 24 → (f.length : Int) = n + 1) ∧ Q (.int (refusal n p f)) H
section
variable {P : Program} {w : World} {K : PySem.W.Frag} {mg : Str → Option Value} {base : Heap}
theorem scRefuse : FnScope ["n", "p", "f"] ["n", "p", "f"] (defScope sRefuse) := ⟨rfl, rfl, rfl, by decide +kernel, rfl, by decide +kernel, by decide +kernel⟩
theorem ok_refuse {f fP : Addr} {fd fdP : FuncData} (F : Fun K "refuse_polynomial" "refuse_polynomial" sRefuse f fd) (FP : Fun K "is_prime" "is_prime" sPrime fP fdP) (bP : Binds K fdP ["p"] []) (gP : mg "is_prime" = some (.ref fP)) : FnOk P w K mg base CX0 2 f fd ["n", "p", "f"] (spRefuse K) := by
  have GP : FnOk P w K mg base CX0 1 fP fdP ["p"] spPrime := ok_prime FP
  refine F.ok scRefuse (fun vs H Q E h => ?_) (fun cdv A outer s H vs Q E hr h => ?_)
  · obtain ⟨n, p, a, f, rfl, _⟩ := h
    rfl
  · obtain ⟨n, p, a, f, rfl, hS, h0, hlen, q⟩ := h
    refine ⟨_, pss_cons (ps_if (PW.pt (pw_or (pt_cmpR op_lt (pv 0) pe_int (nomark _)) (pw_or1 (pt_cmpR op_gt (pv 0) pe_int (nomark _))))) (pss_one (ps_ret (pe_un un_neg pe_int))) pss_nil)
      (pss_cons (ps_if (PW.pt (pw_or (pt_cmpR op_eq (pe_ix ix_list (pv 2) pe_int (fun _ _ => rfl)) pe_int (nomark _)) (pw_or (pt_cmpR op_eq (pe_ix ix_list (pv 2) (pv 0) (fun _ _ => rfl)) pe_int (nomark _))
        (pw_or1 (pt_not (pt_val (pe_call GP hr (by rfl) gP FP.kp bP .nil pass0 (pa_cons (pv 1) pa_nil)))))))) (pss_one (ps_ret (pe_un un_neg pe_int))) pss_nil)
      (pss_one (ps_ret pe_int))), ?_⟩
    have no2 : (n < 1 ∨ 24 < n) → Q (.int (-2)) H := fun h => by
      have e : refusal n p f = -2 := by
        unfold refusal
        rw [if_pos (size_no h)]
      rw [e] at q
      exact q
    refine ⟨_, rfl, _, _, rfl, rfl, _, rfl, ite2 (fun c => iteT ?_) (fun c => ⟨_, rfl, _, _, rfl, rfl, _, rfl, ite2 (fun c2 => ?_) (fun c2 => ?_)⟩)⟩
    · exact ⟨_, rfl, no2 (.inl (of_decide_eq_true c))⟩
    · exact ⟨_, rfl, no2 (.inr (of_decide_eq_true c2))⟩
    · have c1' : ¬ n < 1 := fun z => c (decide_eq_true z)
      have c2' : ¬ 24 < n := fun z => c2 (decide_eq_true z)
      have hl := hlen (by omega) (by omega)
      have hn1 : 1 ≤ n := by omega
      have so := size_yes (n := n) (by omega) (by omega)
      have no3 : Sn90.good n f p.toNat = false → Q (.int (-3)) H := fun h => by
        have e : refusal n p f = -3 := by
          unfold refusal
          rw [if_neg (by rw [so]; decide), if_pos h]
        rw [e] at q
        exact q
      refine ⟨_, rfl, a, _, _, _, rfl, rfl, hS, atI_nat (j := 0) (coef_at (by omega)), rfl, _, rfl, ite2 (fun c3 => iteT ?_) (fun c3 => ?_)⟩
      · have e : Sn90.coef f 0 = 0 := V.int.inj (of_decide_eq_true c3)
        exact ⟨_, rfl, no3 (by rw [good_eq hn1 hl, e]; rfl)⟩
      · have e3 : Sn90.coef f 0 ≠ 0 := fun z => c3 (decide_eq_true (congrArg V.int z))
        refine ⟨_, rfl, _, rfl, a, _, _, _, rfl, rfl, hS, at_of (j := n.toNat) (by omega) (coef_at (by omega)), rfl, _, rfl, ite2 (fun c4 => iteT ?_) (fun c4 => ?_)⟩
        · have e : Sn90.coef f n.toNat = 0 := V.int.inj (of_decide_eq_true c4)
          exact ⟨_, rfl, no3 (by rw [good_eq hn1 hl, e, show ((0 : Int) != 0) = false from rfl, Bool.and_false, Bool.false_and])⟩
        · have e4 : Sn90.coef f n.toNat ≠ 0 := fun z => c4 (decide_eq_true (congrArg V.int z))
          refine ⟨_, rfl, p, rfl, h0, _, rfl, ite2 (fun c5 => ?_) (fun c5 => ?_)⟩
          · have e : Sn90.primeOk p.toNat = false := by
              cases z : Sn90.primeOk p.toNat with
              | false => rfl
              | true =>
                rw [z] at c5
                exact absurd c5 (by decide)
            exact ⟨_, rfl, no3 (by rw [good_eq hn1 hl, e, Bool.and_false])⟩
          · have e : Sn90.primeOk p.toNat = true := by
              cases z : Sn90.primeOk p.toNat with
              | true => rfl
              | false =>
                rw [z] at c5
                exact absurd rfl c5
            have g : Sn90.good n f p.toNat = true := by
              rw [good_eq hn1 hl, e, Bool.and_true, Bool.and_eq_true, bne_iff_ne, bne_iff_ne]
              exact ⟨e3, e4⟩
            have e0 : refusal n p f = 0 := by
              unfold refusal
              rw [if_neg (by rw [so]; decide), if_neg (by rw [g]; decide)]
            rw [e0] at q
            exact q
end
/-- what a refusal tells -/
theorem refusal_ways (n p : Int) (f : List Int) : (Sn90.sizeOk n = false ∧ refusal n p f = -2) ∨ (Sn90.sizeOk n = true ∧ Sn90.good n f p.toNat = false ∧ refusal n p f = -3) ∨ (Sn90.sizeOk n = true ∧ Sn90.good n f p.toNat = true ∧ refusal n p f = 0) := by
  unfold refusal
  cases h : Sn90.sizeOk n with
  | false => exact .inl ⟨rfl, rfl⟩
  | true =>
    cases g : Sn90.good n f p.toNat with
    | false => exact .inr (.inl ⟨rfl, rfl, rfl⟩)
    | true => exact .inr (.inr ⟨rfl, rfl, rfl⟩)
end My
namespace My
open PySem PySem.Spec PyProof.Rows L2
open PySem.W (Codec)
/-! ## find_common_divisor, find_pieces -/
def pint (l : List Nat) : List V := l.map fun (x : Nat) => V.int (x : Int)
def spGcd : Sp := fun vs H Q _ => ∃ a b : Int, vs = [.int a, .int b] ∧ 0 ≤ a ∧ 0 ≤ b ∧ Q (.int (Nat.gcd a.toNat b.toNat : Nat)) H
def spFPieces : Sp := fun vs H Q _ => ∃ (q : Addr) (p : Nat) (f : List Int) (bs : List Addr), vs = [.ref q] ∧ H q = some (.lst (bs.map V.ref)) ∧ TupsAt p f H (Sn90.corners p f) bs ∧ f.length ≠ 0 ∧ f.length ≤ 25 ∧ bs.length ≤ 25 ∧ Sn90.coef f (f.length - 1) ≠ 0 ∧
  ∀ (H' : Hp) (r : Addr), Same H H' → H' r = some (.lst (pint (Sn90.pieces p f))) → Q (.ref r) H'
section
variable {P : Program} {w : World} {K : PySem.W.Frag} {mg : Str → Option Value} {base : Heap}
theorem scGcd : FnScope ["a", "b", "divisor", "rest", "left"] ["a", "b"] (defScope sGcd) := ⟨rfl, rfl, rfl, by decide +kernel, rfl, by decide +kernel, by decide +kernel⟩
theorem ok_gcd {f : Addr} {fd : FuncData} (F : Fun K "find_common_divisor" "find_common_divisor" sGcd f fd) : FnOk P w K mg base CX0 1 f fd ["a", "b"] spGcd := by
  refine F.ok scGcd (fun vs H Q E h => ?_) (fun cdv A outer s H vs Q E hr h => ?_)
  · obtain ⟨a, b, rfl, _⟩ := h
    rfl
  · obtain ⟨a, b, rfl, ha, hb, q⟩ := h
    refine ⟨_, pss_cons (ps_set (i := 2) scGcd.nd rfl (.inl rfl) (pv 0))
      (pss_cons (ps_set (i := 3) scGcd.nd rfl (.inl rfl) (pv 1))
      (pss_cons (ps_while PassesOwn.never (pt_cmpR op_ne (pv 3) pe_int (nomark _))
        (pss_cons (ps_set (i := 4) scGcd.nd rfl (.inl rfl) (pe_op op_mod (pv 2) (pv 3)))
          (pss_cons (ps_set (i := 2) scGcd.nd rfl (.inl rfl) (pv 3))
          (pss_one (ps_set (i := 3) scGcd.nd rfl (.inl rfl) (pv 4))))))
      (pss_one (ps_ret (pv 2))))), ?_⟩
    refine ⟨_, rfl, _, rfl, fun m σ H' => ∃ (d r : Nat) (v4 : Option V), σ = [some (.int a), some (.int b), some (.int (d : Int)), some (.int (r : Int)), v4] ∧ H' = H ∧ Nat.gcd d r = Nat.gcd a.toNat b.toNat ∧ m = r,
      ⟨_, a.toNat, b.toNat, none, by rw [Int.toNat_of_nonneg ha, Int.toNat_of_nonneg hb]; rfl, rfl, rfl, rfl⟩, ?_⟩
    rintro m σ H' ⟨d, r, v4, rfl, rfl, hg, rfl⟩
    refine ⟨_, rfl, rfl, _, rfl, ite2 (fun c => ?_) (fun c => ?_)⟩
    · have c' : m ≠ 0 := fun z => by
        rw [z] at c
        exact absurd c (by decide)
      refine ⟨fun σ' H'' => σ' = [some (.int a), some (.int b), some (.int (m : Int)), some (.int ((d % m : Nat) : Int)), some (.int ((d % m : Nat) : Int))] ∧ H'' = H', ?_, ?_⟩
      · rintro σ' H'' ⟨rfl, rfl⟩
        exact ⟨_, Nat.mod_lt _ (by omega), m, d % m, _, rfl, rfl, by rw [← gcd_turn]; exact hg, rfl⟩
      · refine ⟨_, rfl, _, rfl, _, _, rfl, rfl, (by omega : (0 : Int) < (m : Int)), ?_⟩
        exact ⟨_, rfl, _, rfl, rfl, rfl⟩
    · have c' : m = 0 := by
        by_cases z : m = 0
        · exact z
        · refine absurd ?_ c
          rw [decide_eq_false (fun y => z (by have := V.int.inj y; omega))]
          rfl
      rw [c', Nat.gcd_zero_right] at hg
      rw [← hg] at q
      exact ⟨_, rfl, q⟩
theorem scFPieces : FnScope ["found", "lengths", "k", "run", "rise", "many", "piece"] ["found"] (defScope sFPieces) := ⟨rfl, rfl, rfl, by decide +kernel, rfl, by decide +kernel, by decide +kernel⟩
theorem abs_nat (z : Int) : (if z < 0 then -z else z) = (z.natAbs : Int) := by
  by_cases c : z < 0
  · rw [if_pos c]; omega
  · rw [if_neg c]; omega
theorem pint_snoc (l : List Nat) (x : Nat) : pint (l ++ [x]) = pint l ++ [V.int (x : Int)] := by
  unfold pint
  rw [List.map_append]
  rfl
theorem ok_fpieces {f fG : Addr} {fd fdG : FuncData} (F : Fun K "find_pieces" "find_pieces" sFPieces f fd) (FG : Fun K "find_common_divisor" "find_common_divisor" sGcd fG fdG) (bG : Binds K fdG ["a", "b"] []) (gG : mg "find_common_divisor" = some (.ref fG))
    (ml : mg "len" = none) (mr : mg "range" = none) (ma : mg "abs" = none) : FnOk P w K mg base CX0 2 f fd ["found"] spFPieces := by
  have GG : FnOk P w K mg base CX0 1 fG fdG ["a", "b"] spGcd := ok_gcd FG
  refine F.ok scFPieces (fun vs H Q E h => ?_) (fun cdv A outer s H vs Q E hr h => ?_)
  · obtain ⟨q, p, f, bs, rfl, _⟩ := h
    rfl
  · obtain ⟨l, p, f, bs, rfl, hl, T, hf0, hlen, hbl, hcn, q⟩ := h
    refine ⟨_, pss_cons (ps_set (i := 1) scFPieces.nd rfl (.inl rfl) (pe_lst pa_nil))
      (pss_cons (ps_for PassesOwn.never rfl (pi_range2 rfl mr (pa_cons pe_int (pa_cons (pe_callB call_len_seq (by rfl) ml PySem.boot_len (pa_cons (pv 0) pa_nil)) pa_nil))) (pg_name (i := 2) scFPieces.nd rfl (.inl rfl))
        (pss_cons (ps_set (i := 3) scFPieces.nd rfl (.inl rfl) (pe_op op_sub (pe_ix ix_tup (pe_ix ix_list (pv 0) (pv 2) (fun _ _ => rfl)) pe_int (fun _ _ => rfl)) (pe_ix ix_tup (pe_ix ix_list (pv 0) (pe_op op_sub (pv 2) pe_int) (fun _ _ => rfl)) pe_int (fun _ _ => rfl))))
        (pss_cons (ps_set (i := 4) scFPieces.nd rfl (.inl rfl) (pe_callB call_abs (by rfl) ma boot_abs (pa_cons (pe_op op_sub (pe_ix ix_tup (pe_ix ix_list (pv 0) (pv 2) (fun _ _ => rfl)) pe_int (fun _ _ => rfl)) (pe_ix ix_tup (pe_ix ix_list (pv 0) (pe_op op_sub (pv 2) pe_int) (fun _ _ => rfl)) pe_int (fun _ _ => rfl))) pa_nil)))
        (pss_cons (ps_set (i := 5) scFPieces.nd rfl (.inl rfl) (pe_call GG hr (by rfl) gG FG.kp bG .nil pass0 (pa_cons (pv 4) (pa_cons (pv 3) pa_nil))))
        (pss_one (ps_for PassesOwn.never rfl (pi_range1 rfl mr (pa_cons (pv 5) pa_nil)) (pg_name (i := 6) scFPieces.nd rfl (.inl rfl))
          (pss_one (ps_expr (pe_bm PySem.F.plainAttrs_list PySem.F.slot_list_append PySem.F.type_list_append mt_append (pv 1) (pa_cons (pe_op op_fdiv (pv 3) (pv 5)) pa_nil))))))))))
      (pss_one (ps_ret (pv 1)))), ?_⟩
    have W := walk_all (p := p) hf0 hcn
    have hal : (bs.map V.ref).length = (Sn90.corners p f).length := by rw [List.length_map, T.len]
    have hcl : (Sn90.corners p f).length ≤ 25 := by rw [← T.len]; exact hbl
    have hpl := pieces_len (p := p) hf0 hcn
    refine ⟨Nat.zero_le _, fun r hr0 => ?_⟩
    have s1 : Same H (upd H r (.lst [])) := same_new hr0 _
    refine ⟨_, rfl, l, _, rfl, .inl (SqL.of (s1 _ _ hl)), _, _, rfl, ⟨by omega, by omega, by rw [hal]; omega, by rw [hal]; omega⟩,
      for_range (lo := 1) (n := ((((bs.map V.ref).length : Nat) : Int) - 1).toNat) (fun t σ H' => ∃ v2 v3 v4 v5 v6 : Option V, σ = [some (.ref l), some (.ref r), v2, v3, v4, v5, v6] ∧ Same H H' ∧ H' r = some (.lst (pint (pcsT p f (Sn90.corners p f) t))))
      ⟨none, none, none, none, none, rfl, s1, upd_same⟩ ?_ ?_⟩
    · rintro t σ H' ht ⟨v2, v3, v4, v5, v6, rfl, s2, hr2⟩
      rw [hal] at ht
      obtain ⟨i, hi⟩ : ∃ i, (Sn90.corners p f)[t]? = some i := ⟨_, List.getElem?_eq_getElem (by omega)⟩
      obtain ⟨k, hk⟩ : ∃ k, (Sn90.corners p f)[t + 1]? = some k := ⟨_, List.getElem?_eq_getElem (by omega)⟩
      have hik := W.rise t i k hi hk
      have T2 := T.same s2
      obtain ⟨ai, gi, _, ti⟩ := T2.ref hi
      obtain ⟨ak, gk, _, tk⟩ := T2.ref hk
      have hl2 := s2 _ _ hl
      have gk2 : atI (bs.map V.ref) (1 + (t : Int)) = some (.ref ak) := at_of (j := t + 1) (by omega) gk
      have gi2 : atI (bs.map V.ref) (1 + (t : Int) - 1) = some (.ref ai) := at_of (j := t) (by omega) gi
      have hg0 : 0 < Nat.gcd (Sn90.at_ p f k - Sn90.at_ p f i).natAbs (k - i) := Nat.gcd_pos_of_pos_right _ (by omega)
      have hgl : Nat.gcd (Sn90.at_ p f k - Sn90.at_ p f i).natAbs (k - i) ≤ k - i := Nat.gcd_le_right _ (by omega)
      have hpo : Sn90.piecesOf p f i k = List.replicate (Nat.gcd (Sn90.at_ p f k - Sn90.at_ p f i).natAbs (k - i)) ((k - i) / Nat.gcd (Sn90.at_ p f k - Sn90.at_ p f i).natAbs (k - i)) := rfl
      have hps := pcsT_succ (p := p) (f := f) hi hk
      have hpt := pcsT_len (p := p) (f := f) (l := Sn90.corners p f) (t := t + 1)
      rw [hps, hpo, List.length_append, List.length_replicate, ← pieces_pcs] at hpt
      have hab := abs_nat (Sn90.at_ p f k - Sn90.at_ p f i)
      have hki : ((k : Int) - (i : Int)).toNat = k - i := by omega
      refine ⟨_, rfl, _, rfl, l, _, _, _, rfl, rfl, SqL.of hl2, gk2, ak, _, _, _, rfl, rfl, SqT.of tk, atI_nat (j := 0) rfl, _, rfl, _, rfl, _, _, rfl, rfl, l, _, _, _, rfl, rfl, SqL.of hl2, gi2, ai, _, _, _, rfl, rfl, SqT.of ti, atI_nat (j := 0) rfl, _, _, rfl, rfl, ?_⟩
      refine ⟨_, rfl, _, rfl, l, _, _, _, rfl, rfl, SqL.of hl2, gk2, ak, _, _, _, rfl, rfl, SqT.of tk, atI_nat (j := 1) rfl, _, rfl, _, rfl, _, _, rfl, rfl, l, _, _, _, rfl, rfl, SqL.of hl2, gi2, ai, _, _, _, rfl, rfl, SqT.of ti, atI_nat (j := 1) rfl, _, _, rfl, rfl, _, rfl, ?_⟩
      rw [hab]
      refine ⟨_, rfl, _, rfl, _, _, rfl, by omega, by omega, ?_⟩
      rw [hki, Int.toNat_natCast]
      generalize Nat.gcd (Sn90.at_ p f k - Sn90.at_ p f i).natAbs (k - i) = g at hg0 hgl hpo hpt ⊢
      refine ⟨_, rfl, _, rfl, by omega, by omega, for_range (lo := 0) (n := ((g : Nat) : Int).toNat) (fun s σ H' => ∃ v6 : Option V, σ = [some (.ref l), some (.ref r), some (.int (1 + (t : Int))), some (.int ((k : Int) - (i : Int))), some (.int ((Sn90.at_ p f k - Sn90.at_ p f i).natAbs : Int)), some (.int (g : Int)), v6] ∧ Same H H' ∧
        H' r = some (.lst (pint (pcsT p f (Sn90.corners p f) t ++ List.replicate s ((k - i) / g)))))
        ⟨v6, rfl, s2, by rw [List.replicate_zero, List.append_nil]; exact hr2⟩ ?_ ?_⟩
      · rintro s σ H'' hs ⟨v7, rfl, s3, hr3⟩
        rw [Int.toNat_natCast] at hs
        have hq : ((k : Int) - (i : Int)) / (g : Int) = (((k - i) / g : Nat) : Int) := by
          rw [Int.natCast_ediv, Int.ofNat_sub (by omega)]
        refine ⟨_, rfl, .inl ⟨rfl, _, SqL.of hr3⟩, _, rfl, _, rfl, _, _, rfl, rfl, ⟨by omega, by omega⟩, r, _, _, rfl, rfl, hr3, small1000 (by unfold pint; rw [List.length_map, List.length_append, List.length_replicate]; omega), ?_⟩
        refine ⟨_, rfl, same_put s3 hr0, ?_⟩
        rw [upd_same, List.replicate_succ', ← List.append_assoc, pint_snoc, ← hq]
      · rintro σ H'' ⟨v7, rfl, s3, hr3⟩
        rw [Int.toNat_natCast, ← hpo, ← hps] at hr3
        exact ⟨_, _, _, _, _, rfl, s3, hr3⟩
    · rintro σ H' ⟨v2, v3, v4, v5, v6, rfl, s2, hr2⟩
      rw [hal, pcsT_end (by omega), ← pieces_pcs] at hr2
      exact ⟨_, rfl, q H' r s2 hr2⟩
end
end My
namespace My
open PySem PySem.Spec PyProof.Rows L2
open PySem.W (Codec)
/-! ## mark_degrees, parts -/
theorem parts_2 {n p : Int} {f : List Int} (h : Sn90.sizeOk n = false) : PySn90.parts n p f = [-2] := by
  show (match Sn90Neutral.answered (.parts n f p.toNat) with | some a => a.v :: a.l | none => []) = _
  unfold Sn90Neutral.answered
  dsimp only
  rw [if_pos h]
  rfl
theorem parts_3 {n p : Int} {f : List Int} (h : Sn90.sizeOk n = true) (g : Sn90.good n f p.toNat = false) : PySn90.parts n p f = [-3] := by
  show (match Sn90Neutral.answered (.parts n f p.toNat) with | some a => a.v :: a.l | none => []) = _
  unfold Sn90Neutral.answered
  dsimp only
  rw [h, if_neg (by decide), if_pos g]
  rfl
theorem parts_ok {n p : Int} {f : List Int} (h : Sn90.sizeOk n = true) (g : Sn90.good n f p.toNat = true) : PySn90.parts n p f = [((Sn90.parts p.toNat f : Nat) : Int)] := by
  show (match Sn90Neutral.answered (.parts n f p.toNat) with | some a => a.v :: a.l | none => []) = _
  unfold Sn90Neutral.answered
  dsimp only
  rw [h, if_neg (by decide), g, if_neg (by decide)]
  rfl
def spMark : Sp := fun vs H Q _ => ∃ (q : Addr) (l : List Nat), vs = [.ref q] ∧ H q = some (.lst (pint l)) ∧ l.sum ≤ 24 ∧ ∀ m : Nat, Marks l m → Q (.int (m : Int)) H
def spParts (K : PySem.W.Frag) : Sp := fun vs H Q _ => ∃ (n p : Int) (a : Addr) (f : List Int), vs = [.int n, .int p, .ref a] ∧ SqL K H a (f.map V.int) ∧ 0 ≤ p ∧ (1 ≤ n → n ≤ 24 → (f.length : Int) = n + 1) ∧
  ∀ (H' : Hp) (r : Addr), H' r = some (.lst ((PySn90.parts n p f).map V.int)) → Q (.ref r) H'
theorem or_nat (m x : Nat) : Builtin.bitOr (m : Int) ((m : Int) * 2 ^ ((x : Int)).toNat) = ((m ||| m * 2 ^ x : Nat) : Int) := by
  have e : (m : Int) * 2 ^ ((x : Int)).toNat = ((m * 2 ^ x : Nat) : Int) := by
    rw [Int.toNat_natCast, Int.natCast_mul, Int.natCast_pow]
    rfl
  rw [e, Bits.bitOr_pp (Int.natCast_nonneg _) (Int.natCast_nonneg _), Int.toNat_natCast, Int.toNat_natCast]
section
variable {P : Program} {w : World} {K : PySem.W.Frag} {mg : Str → Option Value} {base : Heap}
theorem scMark : FnScope ["lengths", "marks", "length"] ["lengths"] (defScope sMark) := ⟨rfl, rfl, rfl, by decide +kernel, rfl, by decide +kernel, by decide +kernel⟩
theorem ok_mark {f : Addr} {fd : FuncData} (F : Fun K "mark_degrees" "mark_degrees" sMark f fd) : FnOk P w K mg base CX0 1 f fd ["lengths"] spMark := by
  refine F.ok scMark (fun vs H Q E h => ?_) (fun cdv A outer s H vs Q E hr h => ?_)
  · obtain ⟨q, l, rfl, _⟩ := h
    rfl
  · obtain ⟨a, l, rfl, hl, hs, q⟩ := h
    refine ⟨_, pss_cons (ps_set (i := 1) scMark.nd rfl (.inl rfl) pe_int)
      (pss_cons (ps_for PassesOwn.never rfl (pi_list (pv 0)) (pg_name (i := 2) scMark.nd rfl (.inl rfl))
        (pss_one (ps_set (i := 1) scMark.nd rfl (.inl rfl) (pe_op op_or (pv 1) (pe_op op_shl (pv 1) (pv 2))))))
      (pss_one (ps_ret (pv 1)))), ?_⟩
    have hil : (pint l).length = l.length := List.length_map ..
    refine ⟨_, rfl, a, rfl, ⟨_, SqL.of hl⟩, for_list (K := K) (a := a) (xs := pint l) (fun i σ H' => ∃ (m : Nat) (v2 : Option V), σ = [some (.ref a), some (.int (m : Int)), v2] ∧ H' = H ∧ Marks (l.take i) m)
      ⟨1, none, rfl, rfl, marks_start⟩ (fun i σ H' _ ⟨_, _, _, e, _⟩ => by subst e; exact SqL.of hl) ?_ ?_⟩
    · rintro i y σ H' hi ⟨m, v2, rfl, rfl, M⟩
      have hil2 : i < l.length := by
        rw [← hil]
        exact (List.getElem?_eq_some_iff.mp hi).1
      obtain ⟨x, hx⟩ : ∃ x, l[i]? = some x := ⟨_, List.getElem?_eq_getElem hil2⟩
      have ey : y = .int (x : Int) := by
        unfold pint at hi
        rw [List.getElem?_map, hx] at hi
        exact (Option.some.inj hi).symm
      subst ey
      have hxs := mem_le_sum l x (List.mem_of_getElem? hx)
      have hm := marks_lt (n := 24) M (Nat.le_trans (take_sum l i) hs)
      have hm2 : m < 33554432 := hm
      refine ⟨_, rfl, _, rfl, _, rfl, _, _, rfl, rfl, ⟨by omega, by omega, by omega⟩, _, _, rfl, rfl, ?_⟩
      refine ⟨m ||| m * 2 ^ x, some (.int (x : Int)), ?_, rfl, ?_⟩
      · rw [← or_nat]
        rfl
      · rw [take_snoc hx]
        exact marks_step M
    · rintro σ H' ⟨m, v2, rfl, rfl, M⟩
      rw [hil, List.take_length] at M
      exact ⟨_, rfl, q m M⟩
theorem scParts : FnScope ["n", "p", "f", "refusal"] ["n", "p", "f"] (defScope sParts) := ⟨rfl, rfl, rfl, by decide +kernel, rfl, by decide +kernel, by decide +kernel⟩
theorem ok_parts {f fU fV fF fP fM : Addr} {fd fdU fdV fdF fdP fdM : FuncData} (F : Fun K "parts" "parts" sParts f fd)
    (GU : FnOk P w K mg base CX0 2 fU fdU ["n", "p", "f"] (spRefuse K)) (bU : Binds K fdU ["n", "p", "f"] []) (gU : mg "refuse_polynomial" = some (.ref fU)) (kU : PySem.W.keepIn K (.ref fU) = true)
    (GV : FnOk P w K mg base CX0 2 fV fdV ["p", "f"] (spPoints K)) (bV : Binds K fdV ["p", "f"] []) (gV : mg "find_points" = some (.ref fV)) (kV : PySem.W.keepIn K (.ref fV) = true)
    (GF : FnOk P w K mg base CX0 3 fF fdF ["points"] spFind) (bF : Binds K fdF ["points"] []) (gF : mg "find_corners" = some (.ref fF)) (kF : PySem.W.keepIn K (.ref fF) = true)
    (GP : FnOk P w K mg base CX0 2 fP fdP ["found"] spFPieces) (bP : Binds K fdP ["found"] []) (gP : mg "find_pieces" = some (.ref fP)) (kP : PySem.W.keepIn K (.ref fP) = true)
    (GM : FnOk P w K mg base CX0 1 fM fdM ["lengths"] spMark) (bM : Binds K fdM ["lengths"] []) (gM : mg "mark_degrees" = some (.ref fM)) (kM : PySem.W.keepIn K (.ref fM) = true) :
    FnOk P w K mg base CX0 4 f fd ["n", "p", "f"] (spParts K) := by
  refine F.ok scParts (fun vs H Q E h => ?_) (fun cdv A outer s H vs Q E hr h => ?_)
  · obtain ⟨n, p, a, f, rfl, _⟩ := h
    rfl
  · obtain ⟨n, p, a, f, rfl, hS, h0, hlen, q⟩ := h
    have hr2 : Room 2 _ := hr.mono (by decide)
    have hr1 : Room 1 _ := hr.mono (by decide)
    refine ⟨_, pss_cons (ps_set (i := 3) scParts.nd rfl (.inl rfl) (pe_call GU hr2 (by rfl) gU kU bU .nil pass0 (pa_cons (pv 0) (pa_cons (pv 1) (pa_cons (pv 2) pa_nil)))))
      (pss_cons (ps_if (pt_cmpR op_lt (pv 3) pe_int (nomark _)) (pss_one (ps_ret (pe_lst (pa_cons (pv 3) pa_nil)))) pss_nil)
      (pss_one (ps_ret (pe_lst (pa_cons (pe_call GM hr1 (by rfl) gM kM bM .nil pass0 (pa_cons (pe_call GP hr2 (by rfl) gP kP bP .nil pass0 (pa_cons (pe_call GF hr (by rfl) gF kF bF .nil pass0 (pa_cons (pe_call GV hr2 (by rfl) gV kV bV .nil pass0 (pa_cons (pv 1) (pa_cons (pv 2) pa_nil))) pa_nil)) pa_nil)) pa_nil)) pa_nil))))), ?_⟩
    refine ⟨_, rfl, _, rfl, _, rfl, n, p, a, f, rfl, hS, h0, hlen, ?_⟩
    rcases refusal_ways n p f with ⟨h1, e⟩ | ⟨h1, h2, e⟩ | ⟨h1, h2, e⟩
    · rw [e]
      refine ⟨_, rfl, _, _, rfl, rfl, _, rfl, iteT ?_⟩
      refine ⟨_, rfl, (by show 1 ≤ sizeLine; decide), fun r hr' => q _ r ?_⟩
      rw [upd_same, parts_2 h1]
      rfl
    · rw [e]
      refine ⟨_, rfl, _, _, rfl, rfl, _, rfl, iteT ?_⟩
      refine ⟨_, rfl, (by show 1 ≤ sizeLine; decide), fun r hr' => q _ r ?_⟩
      rw [upd_same, parts_3 h1 h2]
      rfl
    · rw [e]
      have hn := size_in h1
      have hl := hlen hn.1 hn.2
      obtain ⟨g0, gn, gp⟩ := good_all hn.1 hl h2
      have hp2 := primeOk_two gp
      have hnl : f.length - 1 = n.toNat := by omega
      have hf0 : f.length ≠ 0 := by omega
      have hcn : Sn90.coef f (f.length - 1) ≠ 0 := by rw [hnl]; exact gn
      have hps := pieces_sum (p := p.toNat) hf0 hcn
      refine ⟨_, rfl, _, _, rfl, rfl, _, rfl, iteF ?_⟩
      refine ⟨_, rfl, _, rfl, p, a, f, rfl, hS, by omega, by omega, by omega, fun H1 r1 as s1 e1 T1 => ?_⟩
      refine ⟨r1, p.toNat, f, as, rfl, e1, T1, hf0, by omega, g0, hcn, fun H2 r2 bs s2 e2 T2 hb2 => ?_⟩
      refine ⟨r2, p.toNat, f, bs, rfl, e2, T2, hf0, by omega, hb2, hcn, fun H3 r3 s3 e3 => ?_⟩
      refine ⟨r3, _, rfl, e3, by omega, fun m M => ?_⟩
      refine ⟨(by show 1 ≤ sizeLine; decide), fun r4 n4 => q _ r4 ?_⟩
      rw [upd_same, parts_ok h1 h2, marks_end M hf0 hcn]
      rfl
end
end My
namespace My
/-- what the document lets be handed in, of a polynomial -/
theorem asked_poly {n p : Int} {f : List Int} (h : PySn90.parts_asked n p f = true) : 0 ≤ p ∧ (1 ≤ n → n ≤ 24 → (f.length : Int) = n + 1) := by
  have h1 : ([[[3, n, p], f]].all Sn90Neutral.asked1 && (decide (1 ≤ 1) && decide (1 ≤ 400))) = true := h
  rw [Bool.and_eq_true, List.all_cons, Bool.and_eq_true] at h1
  have h2 : (Sn90Neutral.whole32 n && (Sn90Neutral.natural p 32 && (f.all (fun (z : Int) => decide (-(2 ^ 63) ≤ z) && decide (z < 2 ^ 63)) && (decide ((f.length : Int) = if 1 ≤ n ∧ n ≤ 24 then n + 1 else 0))))) = true := h1.1.1
  rw [Bool.and_eq_true, Bool.and_eq_true, Bool.and_eq_true] at h2
  have h3 := h2.2.1
  unfold Sn90Neutral.natural at h3
  rw [Bool.and_eq_true] at h3
  have h4 := of_decide_eq_true h2.2.2.2
  refine ⟨of_decide_eq_true h3.1, fun a b => ?_⟩
  rw [if_pos ⟨a, b⟩] at h4
  exact h4
end My
namespace My
open PySem PySem.Spec PyProof.Rows L2
/-! ## what the top has written -/
theorem all_mk {P : Program} {w : World} {K : PySem.W.Frag} {h : Heap} {mg : Str → Option Value} {fa f1 f2 f3 f4 f5 f6 f7 f8 f9 f10 f11 : Addr} (X : K.In h) (G : h.Ns mainGlobals mg) (hfa : mg "parts" = some (.ref fa))
    {od1 an1 od2 an2 od3 an3 od4 an4 od5 an5 od6 an6 od7 an7 od8 an8 od9 an9 od10 an10 od11 an11 : Option Addr} {sl1 sl2 sl3 sl4 sl5 sl6 sl7 sl8 sl9 sl10 sl11 : Array (Option Value)} {oc1 kV1 dc1 pm1 cd1 ct1 oc2 kV2 dc2 pm2 cd2 ct2 oc3 kV3 dc3 pm3 cd3 ct3 oc4 kV4 dc4 pm4 cd4 ct4 oc5 kV5 dc5 pm5 cd5 ct5 oc6 kV6 dc6 pm6 cd6 ct6 oc7 kV7 dc7 pm7 cd7 ct7 oc8 kV8 dc8 pm8 cd8 ct8 oc9 kV9 dc9 pm9 cd9 ct9 oc10 kV10 dc10 pm10 cd10 ct10 oc11 kV11 dc11 pm11 cd11 ct11 : Value}
    (a1 : PySem.W.nsIn K mainGlobals "is_prime" = some (some (.ref f1))) (l1 : K.lookup f1 = some ⟨oc1, od1, .func (PySem.W.fnOf "is_prime" "is_prime" (defArgs sPrime) (defBody sPrime) (defScope sPrime) .none kV1 dc1 pm1 an1 cd1 ct1), sl1⟩) (c1 : PySem.W.codeIn K cd1 "is_prime" = true) (k1 : PySem.W.keepIn K (.ref f1) = true)
    (a2 : PySem.W.nsIn K mainGlobals "count_divisions" = some (some (.ref f2))) (l2 : K.lookup f2 = some ⟨oc2, od2, .func (PySem.W.fnOf "count_divisions" "count_divisions" (defArgs sCount) (defBody sCount) (defScope sCount) .none kV2 dc2 pm2 an2 cd2 ct2), sl2⟩) (c2 : PySem.W.codeIn K cd2 "count_divisions" = true) (k2 : PySem.W.keepIn K (.ref f2) = true)
    (a3 : PySem.W.nsIn K mainGlobals "find_points" = some (some (.ref f3))) (l3 : K.lookup f3 = some ⟨oc3, od3, .func (PySem.W.fnOf "find_points" "find_points" (defArgs sPoints) (defBody sPoints) (defScope sPoints) .none kV3 dc3 pm3 an3 cd3 ct3), sl3⟩) (c3 : PySem.W.codeIn K cd3 "find_points" = true) (k3 : PySem.W.keepIn K (.ref f3) = true)
    (a4 : PySem.W.nsIn K mainGlobals "compare_rises" = some (some (.ref f4))) (l4 : K.lookup f4 = some ⟨oc4, od4, .func (PySem.W.fnOf "compare_rises" "compare_rises" (defArgs sRises) (defBody sRises) (defScope sRises) .none kV4 dc4 pm4 an4 cd4 ct4), sl4⟩) (c4 : PySem.W.codeIn K cd4 "compare_rises" = true) (k4 : PySem.W.keepIn K (.ref f4) = true)
    (a5 : PySem.W.nsIn K mainGlobals "find_next_corner" = some (some (.ref f5))) (l5 : K.lookup f5 = some ⟨oc5, od5, .func (PySem.W.fnOf "find_next_corner" "find_next_corner" (defArgs sNext) (defBody sNext) (defScope sNext) .none kV5 dc5 pm5 an5 cd5 ct5), sl5⟩) (c5 : PySem.W.codeIn K cd5 "find_next_corner" = true) (k5 : PySem.W.keepIn K (.ref f5) = true)
    (a6 : PySem.W.nsIn K mainGlobals "find_corners" = some (some (.ref f6))) (l6 : K.lookup f6 = some ⟨oc6, od6, .func (PySem.W.fnOf "find_corners" "find_corners" (defArgs sFind) (defBody sFind) (defScope sFind) .none kV6 dc6 pm6 an6 cd6 ct6), sl6⟩) (c6 : PySem.W.codeIn K cd6 "find_corners" = true) (k6 : PySem.W.keepIn K (.ref f6) = true)
    (a7 : PySem.W.nsIn K mainGlobals "refuse_polynomial" = some (some (.ref f7))) (l7 : K.lookup f7 = some ⟨oc7, od7, .func (PySem.W.fnOf "refuse_polynomial" "refuse_polynomial" (defArgs sRefuse) (defBody sRefuse) (defScope sRefuse) .none kV7 dc7 pm7 an7 cd7 ct7), sl7⟩) (c7 : PySem.W.codeIn K cd7 "refuse_polynomial" = true) (k7 : PySem.W.keepIn K (.ref f7) = true)
    (a8 : PySem.W.nsIn K mainGlobals "find_common_divisor" = some (some (.ref f8))) (l8 : K.lookup f8 = some ⟨oc8, od8, .func (PySem.W.fnOf "find_common_divisor" "find_common_divisor" (defArgs sGcd) (defBody sGcd) (defScope sGcd) .none kV8 dc8 pm8 an8 cd8 ct8), sl8⟩) (c8 : PySem.W.codeIn K cd8 "find_common_divisor" = true) (k8 : PySem.W.keepIn K (.ref f8) = true)
    (a9 : PySem.W.nsIn K mainGlobals "find_pieces" = some (some (.ref f9))) (l9 : K.lookup f9 = some ⟨oc9, od9, .func (PySem.W.fnOf "find_pieces" "find_pieces" (defArgs sFPieces) (defBody sFPieces) (defScope sFPieces) .none kV9 dc9 pm9 an9 cd9 ct9), sl9⟩) (c9 : PySem.W.codeIn K cd9 "find_pieces" = true) (k9 : PySem.W.keepIn K (.ref f9) = true)
    (a10 : PySem.W.nsIn K mainGlobals "mark_degrees" = some (some (.ref f10))) (l10 : K.lookup f10 = some ⟨oc10, od10, .func (PySem.W.fnOf "mark_degrees" "mark_degrees" (defArgs sMark) (defBody sMark) (defScope sMark) .none kV10 dc10 pm10 an10 cd10 ct10), sl10⟩) (c10 : PySem.W.codeIn K cd10 "mark_degrees" = true) (k10 : PySem.W.keepIn K (.ref f10) = true)
    (a11 : PySem.W.nsIn K mainGlobals "parts" = some (some (.ref f11))) (l11 : K.lookup f11 = some ⟨oc11, od11, .func (PySem.W.fnOf "parts" "parts" (defArgs sParts) (defBody sParts) (defScope sParts) .none kV11 dc11 pm11 an11 cd11 ct11), sl11⟩) (c11 : PySem.W.codeIn K cd11 "parts" = true) (k11 : PySem.W.keepIn K (.ref f11) = true)
    (z1 : PySem.W.nsIn K mainGlobals "len" = some none)
    (z2 : PySem.W.nsIn K mainGlobals "range" = some none)
    (z3 : PySem.W.nsIn K mainGlobals "abs" = some none) :
    ∃ fd : FuncData, (∀ (s : Shared) (us : List Value), us.length = (["n", "p", "f"] : List Str).length → BindsTo s fd ⟨us, []⟩ ((["n", "p", "f"] : List Str).zip us)) ∧ ∀ base : Heap, K.In base → base.Ns mainGlobals mg → FnOk P w K mg base CX0 4 fa fd ["n", "p", "f"] (spParts K) := by
  have e := hfa.symm.trans (PySem.W.mg_of X G a11)
  cases e
  have F1 := fun_mk (st := sPrime) l1 c1 k1
  have b1 := F1.binds (ps := ["p"]) fun _ _ _ _ _ _ us hl => match us, hl with | [_], _ => rfl
  have g1 := PySem.W.mg_of X G a1
  have F2 := fun_mk (st := sCount) l2 c2 k2
  have b2 := F2.binds (ps := ["p", "z"]) fun _ _ _ _ _ _ us hl => match us, hl with | [_, _], _ => rfl
  have g2 := PySem.W.mg_of X G a2
  have F3 := fun_mk (st := sPoints) l3 c3 k3
  have b3 := F3.binds (ps := ["p", "f"]) fun _ _ _ _ _ _ us hl => match us, hl with | [_, _], _ => rfl
  have g3 := PySem.W.mg_of X G a3
  have F4 := fun_mk (st := sRises) l4 c4 k4
  have b4 := F4.binds (ps := ["corner", "point", "other"]) fun _ _ _ _ _ _ us hl => match us, hl with | [_, _, _], _ => rfl
  have g4 := PySem.W.mg_of X G a4
  have F5 := fun_mk (st := sNext) l5 c5 k5
  have b5 := F5.binds (ps := ["points", "at"]) fun _ _ _ _ _ _ us hl => match us, hl with | [_, _], _ => rfl
  have g5 := PySem.W.mg_of X G a5
  have F6 := fun_mk (st := sFind) l6 c6 k6
  have b6 := F6.binds (ps := ["points"]) fun _ _ _ _ _ _ us hl => match us, hl with | [_], _ => rfl
  have g6 := PySem.W.mg_of X G a6
  have F7 := fun_mk (st := sRefuse) l7 c7 k7
  have b7 := F7.binds (ps := ["n", "p", "f"]) fun _ _ _ _ _ _ us hl => match us, hl with | [_, _, _], _ => rfl
  have g7 := PySem.W.mg_of X G a7
  have F8 := fun_mk (st := sGcd) l8 c8 k8
  have b8 := F8.binds (ps := ["a", "b"]) fun _ _ _ _ _ _ us hl => match us, hl with | [_, _], _ => rfl
  have g8 := PySem.W.mg_of X G a8
  have F9 := fun_mk (st := sFPieces) l9 c9 k9
  have b9 := F9.binds (ps := ["found"]) fun _ _ _ _ _ _ us hl => match us, hl with | [_], _ => rfl
  have g9 := PySem.W.mg_of X G a9
  have F10 := fun_mk (st := sMark) l10 c10 k10
  have b10 := F10.binds (ps := ["lengths"]) fun _ _ _ _ _ _ us hl => match us, hl with | [_], _ => rfl
  have g10 := PySem.W.mg_of X G a10
  have F11 := fun_mk (st := sParts) l11 c11 k11
  have b11 := F11.binds (ps := ["n", "p", "f"]) fun _ _ _ _ _ _ us hl => match us, hl with | [_, _, _], _ => rfl
  have g11 := PySem.W.mg_of X G a11
  have m1 := PySem.W.mg_none_of X G z1
  have m2 := PySem.W.mg_none_of X G z2
  have m3 := PySem.W.mg_none_of X G z3
  refine ⟨PySem.W.fnOf "parts" "parts" (defArgs sParts) (defBody sParts) (defScope sParts) .none kV11 dc11 pm11 an11 cd11 ct11, fun s us hu => match us, hu with | [_, _, _], _ => .of_eq rfl, fun base _ _ => ?_⟩
  exact ok_parts F11 (ok_refuse F7 F1 b1 g1) b7 g7 F7.kp (ok_points F3 F2 b2 g2 m1 m2) b3 g3 F3.kp (ok_find F6 F5 b5 g5 F4 b4 g4 m1 m2) b6 g6 F6.kp (ok_fpieces F9 F8 b8 g8 m1 m2 m3) b9 g9 F9.kp (ok_mark F10) b10 g10 F10.kp
end My
open PySem PySem.W PyProof.Rows
set_option maxRecDepth 100000 in
set_option maxHeartbeats 0 in
theorem PySem.Challenge.cw_unparted_s04_parts_holds : PySem.Challenge.rw_unparted_s04_parts.Holds := by
  w_on; k_headS; (case hw => exact ⟨[.int 0, .int 2, .list []], by decide +kernel, by decide +kernel⟩)
  k_fillS
  refine L2.walk_specK (r := PySem.Challenge.rw_unparted_s04_parts) (k := 4) (CX := L2.CX0) (ps := ["n", "p", "f"]) (sp := My.spParts) (by decide +kernel) rfl rfl ⟨rfl, by decide, by decide⟩ (fun w h Y => PySem.W.kIn_of Y) ?F ?S (fun _ _ _ _ z => z)
  case F =>
    intro w mg fa h Y KX G hmg
    refine' My.all_mk KX G hmg ?a1 ?l1 ?c1 ?k1 ?a2 ?l2 ?c2 ?k2 ?a3 ?l3 ?c3 ?k3 ?a4 ?l4 ?c4 ?k4 ?a5 ?l5 ?c5 ?k5 ?a6 ?l6 ?c6 ?k6 ?a7 ?l7 ?c7 ?k7 ?a8 ?l8 ?c8 ?k8 ?a9 ?l9 ?c9 ?k9 ?a10 ?l10 ?c10 ?k10 ?a11 ?l11 ?c11 ?k11 ?z1 ?z2 ?z3
    (case a1 => k_is); (case l1 => k_is); (case c1 => k_is); (case k1 => k_is)
    (case a2 => k_is); (case l2 => k_is); (case c2 => k_is); (case k2 => k_is)
    (case a3 => k_is); (case l3 => k_is); (case c3 => k_is); (case k3 => k_is)
    (case a4 => k_is); (case l4 => k_is); (case c4 => k_is); (case k4 => k_is)
    (case a5 => k_is); (case l5 => k_is); (case c5 => k_is); (case k5 => k_is)
    (case a6 => k_is); (case l6 => k_is); (case c6 => k_is); (case k6 => k_is)
    (case a7 => k_is); (case l7 => k_is); (case c7 => k_is); (case k7 => k_is)
    (case a8 => k_is); (case l8 => k_is); (case c8 => k_is); (case k8 => k_is)
    (case a9 => k_is); (case l9 => k_is); (case c9 => k_is); (case k9 => k_is)
    (case a10 => k_is); (case l10 => k_is); (case c10 => k_is); (case k10 => k_is)
    (case a11 => k_is); (case l11 => k_is); (case c11 => k_is); (case k11 => k_is)
    (case z1 => k_is); (case z2 => k_is); (case z3 => k_is)
  case S =>
    intro K H xs a hO hwi hask hx
    obtain ⟨n, p, f, u⟩ := a
    cases hx with
    | cons h1 h2 =>
      cases h1
      cases h2 with
      | cons h3 h4 =>
        cases h3
        cases h4 with
        | cons h5 h6 =>
          cases h6
          cases h5 with
          | lst hs ha =>
            have e := L2.ints_dw f _ ha
            subst e
            have q := My.asked_poly hask
            exact ⟨n, p, _, f, rfl, hs, q.1, q.2, fun H' r hr => .lst (L2.SqL.of hr) (L2.dw_ints _)⟩
#print axioms PySem.Challenge.cw_unparted_s04_parts_holds
