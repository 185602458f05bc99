import PyProof.Rows.All
import Wide.All
import OpenK.AllK
import Wide.FinOn
import Open.SpecLaws
import KE.OsHead
import KE.OsGo
import HandS.ForSpec
import PySem.Challenge.RW_unparted_s01_height
set_option Elab.async false
set_option maxRecDepth 100000
set_option maxHeartbeats 2000000
namespace My
open Sn90
/-! ## primes -/
theorem mod_nat (p d : Int) (hp : 0 ≤ p) (hd : 0 ≤ d) : p.fmod d = ((p.toNat % d.toNat : Nat) : Int) := by
  obtain ⟨a, rfl⟩ := Int.eq_ofNat_of_zero_le hp
  obtain ⟨b, rfl⟩ := Int.eq_ofNat_of_zero_le hd
  rw [Int.fmod_eq_emod_of_nonneg _ hd, Int.toNat_natCast, Int.toNat_natCast, Int.natCast_emod]
theorem prime_of {q : Nat} (h2 : 2 ≤ q) (h : ∀ e, 2 ≤ e → e < q → q % e ≠ 0) : prime q = true := by
  unfold prime
  rw [Bool.and_eq_true, List.all_eq_true]
  refine ⟨decide_eq_true h2, fun d hd => ?_⟩
  have hd := List.mem_range.mp hd
  by_cases c : d < 2
  · simp [c]
  · have := h d (by omega) hd
    simp [this]
theorem prime_no {q e : Nat} (h : 2 ≤ e) (hq : e < q) (hm : q % e = 0) : prime q = false := by
  unfold prime
  rw [Bool.and_eq_false_iff]
  right
  rw [List.all_eq_false]
  refine ⟨e, List.mem_range.mpr hq, ?_⟩
  have : ¬ e < 2 := by omega
  simp [this, hm]
theorem prime_two {q : Nat} (h : prime q = true) : 2 ≤ q := by
  unfold prime at h
  rw [Bool.and_eq_true] at h
  exact of_decide_eq_true h.1
theorem primeOk_two {q : Nat} (h : primeOk q = true) : 2 ≤ q ∧ q < 65536 := by
  unfold primeOk at h
  rw [Bool.and_eq_true] at h
  exact ⟨prime_two h.2, of_decide_eq_true h.1⟩
/-- no divisor below d, and d's square is above q -/
theorem prime_sq {q d : Nat} (h2 : 2 ≤ q) (hd : q < d * d) (h : ∀ e, 2 ≤ e → e < d → q % e ≠ 0) : prime q = true := by
  refine prime_of h2 fun e he hq hm => ?_
  by_cases c : e < d
  · exact h e he c hm
  · have hk : e * (q / e) = q := Nat.mul_div_cancel' (Nat.dvd_of_mod_eq_zero hm)
    have h1 : 2 ≤ q / e := by
      generalize q / e = u at hk ⊢
      match u, hk with
      | 0, hk => rw [Nat.mul_zero] at hk; omega
      | 1, hk => rw [Nat.mul_one] at hk; omega
      | u + 2, _ => omega
    have h3 : q / e < d := by
      rcases Nat.lt_or_ge (q / e) d with l | g
      · exact l
      · have : d * d ≤ e * (q / e) := Nat.mul_le_mul (Nat.le_of_not_lt c) g
        omega
    refine h _ h1 h3 ?_
    have : q % (q / e) = (e * (q / e)) % (q / e) := by rw [hk]
    rw [this, Nat.mul_mod_left]
theorem ip_small {p : Int} (h0 : 0 ≤ p) (h : p < 2) : primeOk p.toNat = false := by
  cases e : primeOk p.toNat with
  | false => rfl
  | true => have := primeOk_two e; omega
theorem ip_large {p : Int} (h : 65535 < p) : primeOk p.toNat = false := by
  cases e : primeOk p.toNat with
  | false => rfl
  | true => have := primeOk_two e; omega
theorem ip_no {p d : Int} (hd : 2 ≤ d) (h : d * d ≤ p) (hm : p.fmod d = 0) : primeOk p.toNat = false := by
  have hdp : d < p := by
    have : 2 * d ≤ d * d := Int.mul_le_mul_of_nonneg_right hd (by omega)
    omega
  rw [mod_nat p d (by omega) (by omega)] at hm
  unfold primeOk
  rw [prime_no (e := d.toNat) (by omega) (by omega) (by omega), Bool.and_false]
theorem ip_yes {p d : Int} (h2 : 2 ≤ p) (hp : p ≤ 65535) (hd : 2 ≤ d) (h : ¬ d * d ≤ p) (hm : ∀ e : Nat, 2 ≤ e → (e : Int) < d → p.toNat % e ≠ 0) : primeOk p.toNat = true := by
  unfold primeOk
  rw [Bool.and_eq_true]
  refine ⟨decide_eq_true (by omega), prime_sq (d := d.toNat) (by omega) ?_ fun e he hl => hm e he (by omega)⟩
  have : ((d.toNat * d.toNat : Nat) : Int) = d * d := by rw [Int.natCast_mul, Int.toNat_of_nonneg (by omega)]
  omega
/-! ## heights -/
theorem often_succ (p k n : Nat) : often p (k + 1) n = if n ≠ 0 ∧ n % p = 0 then 1 + often p k (n / p) else 0 := rfl
theorem often_zero (p k : Nat) : often p k 0 = 0 := by
  cases k with
  | zero => rfl
  | succ k => rw [often_succ, if_neg (by omega)]
theorem often_any {p : Nat} (hp : 2 ≤ p) : ∀ (k m n : Nat), n ≤ k → n ≤ m → often p k n = often p m n
  | 0, m, n, h, _ => by
    have : n = 0 := by omega
    rw [this, often_zero, often_zero]
  | k + 1, 0, n, _, h => by
    have : n = 0 := by omega
    rw [this, often_zero, often_zero]
  | k + 1, m + 1, n, h1, h2 => by
    rw [often_succ, often_succ]
    by_cases c : n ≠ 0 ∧ n % p = 0
    · have : n / p < n := Nat.div_lt_self (by omega) (by omega)
      rw [if_pos c, if_pos c, often_any hp k m (n / p) (by omega) (by omega)]
    · rw [if_neg c, if_neg c]
theorem often_yes {p n : Nat} (hp : 2 ≤ p) (hn : n ≠ 0) (h : n % p = 0) : often p n n = 1 + often p (n / p) (n / p) := by
  have : n / p < n := Nat.div_lt_self (by omega) (by omega)
  obtain ⟨k, rfl⟩ : ∃ k, n = k + 1 := ⟨n - 1, by omega⟩
  rw [often_succ, if_pos ⟨hn, h⟩, often_any hp k _ _ (by omega) (Nat.le_refl _)]
theorem often_no {p n : Nat} (h : n % p ≠ 0) : often p n n = 0 := by
  cases n with
  | zero => rfl
  | succ k => rw [often_succ, if_neg (by omega)]
theorem fmod_dvd {z q : Int} (hq : 0 < q) : z.fmod q = 0 ↔ z.natAbs % q.toNat = 0 := by
  rw [Int.fmod_eq_emod_of_nonneg _ (by omega : 0 ≤ q)]
  constructor
  · intro h
    have h1 : q ∣ z := Int.dvd_of_emod_eq_zero h
    have h2 : q.natAbs ∣ z.natAbs := Int.natAbs_dvd_natAbs.mpr h1
    rw [show q.toNat = q.natAbs by omega]
    exact Nat.mod_eq_zero_of_dvd h2
  · intro h
    have h2 : q.toNat ∣ z.natAbs := Nat.dvd_of_mod_eq_zero h
    rw [show q.toNat = q.natAbs by omega] at h2
    exact Int.emod_eq_zero_of_dvd (Int.natAbs_dvd_natAbs.mp h2)
theorem fdiv_abs {z q : Int} (hq : 0 < q) (h : z.fmod q = 0) : (z.fdiv q).natAbs = z.natAbs / q.toNat := by
  rw [Int.fmod_eq_emod_of_nonneg _ (by omega : 0 ≤ q)] at h
  rw [Int.fdiv_eq_ediv_of_nonneg _ (by omega : 0 ≤ q)]
  have h1 : q ∣ z := Int.dvd_of_emod_eq_zero h
  rw [show q.toNat = q.natAbs by omega]
  exact Int.natAbs_ediv_of_dvd h1
theorem height_yes {q z : Int} (hq : 2 ≤ q) (hz : z ≠ 0) (h : z.fmod q = 0) : height q.toNat z = 1 + height q.toNat (z.fdiv q) ∧ z.fdiv q ≠ 0 ∧ (z.fdiv q).natAbs < z.natAbs := by
  have h1 := fdiv_abs (by omega : 0 < q) h
  have h2 := (fmod_dvd (by omega : 0 < q)).mp h
  have h3 : z.natAbs / q.toNat < z.natAbs := Nat.div_lt_self (by omega) (by omega)
  have h4 : z.natAbs / q.toNat ≠ 0 := by
    have := Nat.div_add_mod z.natAbs q.toNat
    intro e
    rw [e, h2] at this
    omega
  refine ⟨?_, by omega, by omega⟩
  unfold height
  rw [h1, often_yes (by omega) (by omega) h2]
theorem height_no {q z : Int} (hq : 2 ≤ q) (h : ¬ z.fmod q = 0) : height q.toNat z = 0 :=
  often_no fun e => h ((fmod_dvd (by omega)).mpr e)
end My
namespace My
open PySem PySem.Spec PyProof.Rows L2
/-! ## the text by its places -/
def top (i : Nat) : Stmt := PySem.Challenge.pw_unparted_s01_height.main.body.getD i (.Pass ⟨0, 0, 0, 0⟩)
abbrev sPrime : Stmt := top 1
abbrev sCount : Stmt := top 2
abbrev sHeight : Stmt := top 4
end My
namespace My
open PySem PySem.Spec PyProof.Rows L2
open PySem.W (Codec)
/-! ## is_prime: True just where the specification's primeOk says so; nothing is made, nothing changed -/
theorem same_new {H : Hp} {p : Addr} (h : H p = none) (o : HO) : Same H (upd H p o) := fun b u q => by rw [upd_ne (ne_of_none q h)]; exact q
def spPrime : Sp := fun vs H Q _ => ∃ p : Int, vs = [.int p] ∧ 0 ≤ p ∧ Q (.bl (Sn90.primeOk p.toNat)) H
/-- count_divisions: of a number that isn't 0, by a prime -/
def spCount : Sp := fun vs H Q _ => ∃ p z : Int, vs = [.int p, .int z] ∧ 2 ≤ p ∧ p < 65536 ∧ z ≠ 0 ∧ Q (.int (Sn90.height p.toNat z : Nat)) H
section
variable {P : Program} {w : World} {K : PySem.W.Frag} {mg : Str → Option Value} {base : Heap}
theorem scPrime : FnScope ["p", "divisor"] ["p"] (defScope sPrime) := ⟨rfl, rfl, rfl, by decide +kernel, rfl, by decide +kernel, by decide +kernel⟩
theorem ok_prime {f : Addr} {fd : FuncData} (F : Fun K "is_prime" "is_prime" sPrime f fd) : FnOk P w K mg base CX0 1 f fd ["p"] spPrime := by
  refine F.ok scPrime (fun vs H Q E h => ?_) (fun cdv A outer s H vs Q E hr h => ?_)
  · obtain ⟨p, rfl, _⟩ := h
    rfl
  · obtain ⟨p, rfl, h0, q⟩ := h
    refine ⟨_, pss_cons (ps_if (PW.pt (pw_or (pt_cmpR op_lt (pv 0) pe_int (nomark _)) (pw_or1 (pt_cmpR op_gt (pv 0) pe_int (nomark _))))) (pss_one (ps_ret pe_bl)) pss_nil)
      (pss_cons (ps_set (i := 1) scPrime.nd rfl (.inl rfl) pe_int)
      (pss_cons (ps_while PassesOwn.never (pt_cmpR op_le (pe_op op_mul (pv 1) (pv 1)) (pv 0) (nomark _))
        (pss_cons (ps_if (pt_cmpR op_eq (pe_op op_modN (pv 0) (pv 1)) pe_int (nomark _)) (pss_one (ps_ret pe_bl)) pss_nil)
          (pss_one (ps_aug (i := 1) scPrime.nd rfl (.inl rfl) pe_int ip_add))))
      (pss_one (ps_ret pe_bl)))), ?_⟩
    refine ⟨_, rfl, _, _, rfl, rfl, _, rfl, ite2 (fun c => iteT ?_) (fun c => ⟨_, rfl, _, _, rfl, rfl, _, rfl, ite2 (fun c2 => ?_) (fun c2 => ?_)⟩)⟩
    · have c' : p < 2 := of_decide_eq_true c
      have e := ip_small h0 c'
      rw [e] at q
      exact q
    · have c' : 65535 < p := of_decide_eq_true c2
      have e := ip_large c'
      rw [e] at q
      exact q
    · have c1' : ¬ p < 2 := fun z => c (decide_eq_true z)
      have c2' : ¬ 65535 < p := fun z => c2 (decide_eq_true z)
      refine ⟨fun m σ H' => ∃ d : Int, σ = [some (.int p), some (.int d)] ∧ H' = H ∧ 2 ≤ d ∧ d ≤ 256 ∧ (∀ e : Nat, 2 ≤ e → (e : Int) < d → p.toNat % e ≠ 0) ∧ m = (300 - d).toNat,
        ⟨_, 2, rfl, rfl, by omega, by omega, fun e h1 h2 => by omega, rfl⟩, ?_⟩
      rintro m σ H' ⟨d, rfl, rfl, hd2, hd, hno, rfl⟩
      refine ⟨_, rfl, _, rfl, _, _, rfl, rfl, .inl ⟨by omega, by omega⟩, _, rfl, _, _, rfl, rfl, _, rfl, ite2 (fun c3 => ?_) (fun c3 => ?_)⟩
      · have c3' : d * d ≤ p := of_decide_eq_true c3
        have hd3 : d ≤ 255 := by
          rcases Int.lt_or_le 255 d with l | g
          · have : 256 * 256 ≤ d * d := Int.mul_le_mul (by omega) (by omega) (by omega) (by omega)
            omega
          · exact g
        refine ⟨fun σ' H'' => σ' = [some (.int p), some (.int (d + 1))] ∧ H'' = H' ∧ p.fmod d ≠ 0, ?_, ?_⟩
        · rintro σ' H'' ⟨rfl, rfl, hm⟩
          refine ⟨(300 - (d + 1)).toNat, by omega, d + 1, rfl, rfl, by omega, by omega, fun e h1 h2 => ?_, rfl⟩
          by_cases ed : (e : Int) = d
          · intro z
            apply hm
            rw [mod_nat p d (by omega) (by omega), ← ed, Int.toNat_natCast, z]
            rfl
          · exact hno e h1 (by omega)
        · refine ⟨_, rfl, _, rfl, _, _, rfl, rfl, (by omega : d ≠ 0), rfl, _, rfl, ite2 (fun c4 => ?_) (fun c4 => ?_)⟩
          · have c4' : p.fmod d = 0 := V.int.inj (of_decide_eq_true c4)
            have e := ip_no hd2 c3' c4'
            rw [e] at q
            exact q
          · exact ⟨_, rfl, _, _, rfl, rfl, rfl, rfl, fun z => c4 (decide_eq_true (congrArg V.int z))⟩
      · have c3' : ¬ d * d ≤ p := fun z => c3 (decide_eq_true z)
        have e := ip_yes (by omega) (by omega) hd2 c3' hno
        rw [e] at q
        exact q
/-! ## count_divisions -/
theorem scCount : FnScope ["p", "z", "times", "rest"] ["p", "z"] (defScope sCount) := ⟨rfl, rfl, rfl, by decide +kernel, rfl, by decide +kernel, by decide +kernel⟩
theorem ok_count {f : Addr} {fd : FuncData} (F : Fun K "count_divisions" "count_divisions" sCount f fd) : FnOk P w K mg base CX0 1 f fd ["p", "z"] spCount := by
  refine F.ok scCount (fun vs H Q E h => ?_) (fun cdv A outer s H vs Q E hr h => ?_)
  · obtain ⟨p, z, rfl, _⟩ := h
    rfl
  · obtain ⟨p, z, rfl, h2, hp, hz, q⟩ := h
    refine ⟨_, pss_cons (ps_set (i := 2) scCount.nd rfl (.inl rfl) pe_int)
      (pss_cons (ps_set (i := 3) scCount.nd rfl (.inl rfl) (pv 1))
      (pss_cons (ps_while PassesOwn.never (pt_cmpR op_eq (pe_op op_modN (pv 3) (pv 0)) pe_int (nomark _))
        (pss_cons (ps_set (i := 3) scCount.nd rfl (.inl rfl) (pe_op op_fdivN (pv 3) (pv 0)))
          (pss_one (ps_aug (i := 2) scCount.nd rfl (.inl rfl) pe_int ip_add))))
      (pss_one (ps_ret (pv 2))))), ?_⟩
    refine ⟨_, rfl, fun m σ H' => ∃ r : Int, ∃ t : Nat, σ = [some (.int p), some (.int z), some (.int t), some (.int r)] ∧ H' = H ∧ r ≠ 0 ∧ t + Sn90.height p.toNat r = Sn90.height p.toNat z ∧ m = r.natAbs,
      ⟨_, z, 0, rfl, rfl, hz, Nat.zero_add _, rfl⟩, ?_⟩
    rintro m σ H' ⟨r, t, rfl, rfl, hr0, ht, rfl⟩
    refine ⟨_, rfl, _, rfl, _, _, rfl, rfl, (by omega : p ≠ 0), rfl, _, rfl, ite2 (fun c => ?_) (fun c => ?_)⟩
    · have c' : r.fmod p = 0 := V.int.inj (of_decide_eq_true c)
      obtain ⟨e1, e2, e3⟩ := height_yes h2 hr0 c'
      refine ⟨fun σ' H'' => σ' = [some (.int p), some (.int z), some (.int ((t : Int) + 1)), some (.int (r.fdiv p))] ∧ H'' = H', ?_, ?_⟩
      · rintro σ' H'' ⟨rfl, rfl⟩
        exact ⟨_, e3, r.fdiv p, t + 1, rfl, rfl, e2, by omega, rfl⟩
      · exact ⟨_, rfl, _, rfl, _, _, rfl, rfl, ⟨by omega, by omega⟩, _, rfl, _, _, rfl, rfl, rfl, rfl⟩
    · have c' : ¬ r.fmod p = 0 := fun z => c (decide_eq_true (congrArg V.int z))
      have e := height_no h2 c'
      have et : t = Sn90.height p.toNat z := by omega
      rw [← et] at q
      exact ⟨_, rfl, q⟩
end
end My
namespace My
open PySem PySem.Spec PyProof.Rows L2
open PySem.W (Codec)
/-! ## height -/
def spHeight : Sp := fun vs H Q _ => ∃ p z : Int, vs = [.int p, .int z] ∧ 0 ≤ p ∧ ∀ (H' : Hp) (r : Addr), H' r = some (.lst ((PySn90.height p z).map V.int)) → Q (.ref r) H'
theorem height_np {p z : Int} (h : Sn90.primeOk p.toNat = false) : PySn90.height p z = [-3] := by
  show (match Sn90Neutral.answered (.height p.toNat z) with | some a => a.v :: a.l | none => []) = [-3]
  unfold Sn90Neutral.answered
  dsimp only
  rw [if_pos h]
  rfl
theorem height_nz {p : Int} (h : Sn90.primeOk p.toNat = true) : PySn90.height p 0 = [-5] := by
  show (match Sn90Neutral.answered (.height p.toNat 0) with | some a => a.v :: a.l | none => []) = [-5]
  unfold Sn90Neutral.answered
  dsimp only
  rw [h, if_neg (by decide), if_pos rfl]
  rfl
theorem height_ok {p z : Int} (h : Sn90.primeOk p.toNat = true) (hz : z ≠ 0) : PySn90.height p z = [((Sn90.height p.toNat z : Nat) : Int)] := by
  show (match Sn90Neutral.answered (.height p.toNat z) with | some a => a.v :: a.l | none => []) = _
  unfold Sn90Neutral.answered
  dsimp only
  rw [h, if_neg (by decide), if_neg hz]
  rfl
section
variable {P : Program} {w : World} {K : PySem.W.Frag} {mg : Str → Option Value} {base : Heap}
theorem scHeight : FnScope ["p", "z"] ["p", "z"] (defScope sHeight) := ⟨rfl, rfl, rfl, by decide +kernel, rfl, by decide +kernel, by decide +kernel⟩
theorem ok_height {f fP fC : Addr} {fd fdP fdC : FuncData} (F : Fun K "height" "height" sHeight f fd) (FP : Fun K "is_prime" "is_prime" sPrime fP fdP) (bP : Binds K fdP ["p"] []) (gP : mg "is_prime" = some (.ref fP))
    (FC : Fun K "count_divisions" "count_divisions" sCount fC fdC) (bC : Binds K fdC ["p", "z"] []) (gC : mg "count_divisions" = some (.ref fC)) : FnOk P w K mg base CX0 2 f fd ["p", "z"] spHeight := by
  have GP : FnOk P w K mg base CX0 1 fP fdP ["p"] spPrime := ok_prime FP
  have GC : FnOk P w K mg base CX0 1 fC fdC ["p", "z"] spCount := ok_count FC
  refine F.ok scHeight (fun vs H Q E h => ?_) (fun cdv A outer s H vs Q E hr h => ?_)
  · obtain ⟨p, z, rfl, _⟩ := h
    rfl
  · obtain ⟨p, z, rfl, h0, q⟩ := h
    refine ⟨_, pss_cons (ps_if (pt_not (pt_val (pe_call GP hr (by rfl) gP FP.kp bP .nil pass0 (pa_cons (pv 0) pa_nil)))) (pss_one (ps_ret (pe_lst (pa_cons (pe_un un_neg pe_int) pa_nil)))) pss_nil)
      (pss_cons (ps_if (pt_cmpR op_eq (pv 1) pe_int (nomark _)) (pss_one (ps_ret (pe_lst (pa_cons (pe_un un_neg pe_int) pa_nil)))) pss_nil)
      (pss_one (ps_ret (pe_lst (pa_cons (pe_call GC hr (by rfl) gC FC.kp bC .nil pass0 (pa_cons (pv 0) (pa_cons (pv 1) pa_nil))) pa_nil))))), ?_⟩
    refine ⟨_, rfl, p, rfl, h0, _, rfl, ite2 (fun c => ?_) (fun c => ?_)⟩
    · have c' : Sn90.primeOk p.toNat = false := by
        cases e : Sn90.primeOk p.toNat with
        | false => rfl
        | true =>
          rw [e] at c
          exact absurd c (by decide)
      refine ⟨_, rfl, (by show 1 ≤ sizeLine; decide), fun r hr' => q _ r ?_⟩
      rw [upd_same, height_np c']
      rfl
    · have c' : Sn90.primeOk p.toNat = true := by
        cases e : Sn90.primeOk p.toNat with
        | true => rfl
        | false =>
          rw [e] at c
          exact absurd rfl c
      have hp := primeOk_two c'
      refine ⟨_, rfl, rfl, _, rfl, ite2 (fun c2 => ?_) (fun c2 => ?_)⟩
      · have c2' : z = 0 := V.int.inj (of_decide_eq_true c2)
        subst c2'
        refine ⟨_, rfl, (by show 1 ≤ sizeLine; decide), fun r hr' => q _ r ?_⟩
        rw [upd_same, height_nz c']
        rfl
      · have c2' : z ≠ 0 := fun z => c2 (decide_eq_true (congrArg V.int z))
        refine ⟨_, rfl, _, rfl, p, z, rfl, by omega, by omega, c2', (by show 1 ≤ sizeLine; decide), fun r hr' => q _ r ?_⟩
        rw [upd_same, height_ok c' c2']
        rfl
end
/-! ## what the top has written -/
theorem all_mk {P : Program} {w : World} {K : PySem.W.Frag} {h : Heap} {mg : Str → Option Value} {fa f1 f2 f3 : Addr} (X : K.In h) (G : h.Ns mainGlobals mg) (hfa : mg "height" = some (.ref fa))
    {od1 an1 od2 an2 od3 an3 : Option Addr} {sl1 sl2 sl3 : Array (Option Value)} {oc1 kV1 dc1 pm1 cd1 ct1 oc2 kV2 dc2 pm2 cd2 ct2 oc3 kV3 dc3 pm3 cd3 ct3 : Value}
    (a1 : PySem.W.nsIn K mainGlobals "is_prime" = some (some (.ref f1))) (l1 : K.lookup f1 = some ⟨oc1, od1, .func (PySem.W.fnOf "is_prime" "is_prime" (defArgs sPrime) (defBody sPrime) (defScope sPrime) .none kV1 dc1 pm1 an1 cd1 ct1), sl1⟩) (c1 : PySem.W.codeIn K cd1 "is_prime" = true) (k1 : PySem.W.keepIn K (.ref f1) = true)
    (a2 : PySem.W.nsIn K mainGlobals "count_divisions" = some (some (.ref f2))) (l2 : K.lookup f2 = some ⟨oc2, od2, .func (PySem.W.fnOf "count_divisions" "count_divisions" (defArgs sCount) (defBody sCount) (defScope sCount) .none kV2 dc2 pm2 an2 cd2 ct2), sl2⟩) (c2 : PySem.W.codeIn K cd2 "count_divisions" = true) (k2 : PySem.W.keepIn K (.ref f2) = true)
    (a3 : PySem.W.nsIn K mainGlobals "height" = some (some (.ref f3))) (l3 : K.lookup f3 = some ⟨oc3, od3, .func (PySem.W.fnOf "height" "height" (defArgs sHeight) (defBody sHeight) (defScope sHeight) .none kV3 dc3 pm3 an3 cd3 ct3), sl3⟩) (c3 : PySem.W.codeIn K cd3 "height" = true) (k3 : PySem.W.keepIn K (.ref f3) = true) :
    ∃ fd : FuncData, (∀ (s : Shared) (us : List Value), us.length = (["p", "z"] : List Str).length → BindsTo s fd ⟨us, []⟩ ((["p", "z"] : List Str).zip us)) ∧ ∀ base : Heap, K.In base → base.Ns mainGlobals mg → FnOk P w K mg base CX0 2 fa fd ["p", "z"] spHeight := by
  have e := hfa.symm.trans (PySem.W.mg_of X G a3)
  cases e
  have F1 := fun_mk (st := sPrime) l1 c1 k1
  have F2 := fun_mk (st := sCount) l2 c2 k2
  have F3 := fun_mk (st := sHeight) l3 c3 k3
  have b1 := F1.binds (ps := ["p"]) fun _ _ _ _ _ _ us hl => match us, hl with | [_], _ => rfl
  have b2 := F2.binds (ps := ["p", "z"]) fun _ _ _ _ _ _ us hl => match us, hl with | [_, _], _ => rfl
  exact ⟨PySem.W.fnOf "height" "height" (defArgs sHeight) (defBody sHeight) (defScope sHeight) .none kV3 dc3 pm3 an3 cd3 ct3, fun s us hu => match us, hu with | [_, _], _ => .of_eq rfl, fun base _ _ => ok_height F3 F1 b1 (PySem.W.mg_of X G a1) F2 b2 (PySem.W.mg_of X G a2)⟩
end My
open PySem PySem.W PyProof.Rows
set_option maxRecDepth 100000 in
set_option maxHeartbeats 0 in
theorem PySem.Challenge.cw_unparted_s01_height_holds : PySem.Challenge.rw_unparted_s01_height.Holds := by
  w_on; k_headS; (case hw => exact ⟨[.int 2, .int 1], by decide +kernel, by decide +kernel⟩)
  k_fillS
  refine L2.walk_specK (r := PySem.Challenge.rw_unparted_s01_height) (k := 2) (CX := L2.CX0) (ps := ["p", "z"]) (sp := fun _ => My.spHeight) (by decide +kernel) rfl rfl ⟨rfl, by decide, by decide⟩ (fun w h Y => PySem.W.kIn_of Y) ?F ?S (fun _ _ _ _ z => z)
  case F =>
    intro w mg fa h Y KX G hmg
    refine' My.all_mk KX G hmg ?a1 ?l1 ?c1 ?k1 ?a2 ?l2 ?c2 ?k2 ?a3 ?l3 ?c3 ?k3
    (case a1 => k_is); (case l1 => k_is); (case c1 => k_is); (case k1 => k_is)
    (case a2 => k_is); (case l2 => k_is); (case c2 => k_is); (case k2 => k_is)
    (case a3 => k_is); (case l3 => k_is); (case c3 => k_is); (case k3 => k_is)
  case S =>
    intro K H xs a hO hwi hask hx
    obtain ⟨p, z, u⟩ := a
    cases hx with
    | cons h1 h2 =>
      cases h1
      cases h2 with
      | cons h3 h4 =>
        cases h3
        cases h4
        have q : (Codec.inInt 0 4294967295 p && (Codec.inInt (-9223372036854775808) 9223372036854775807 z && true)) = true := hwi
        rw [Bool.and_eq_true] at q
        have q1 : (decide (0 ≤ p) && decide (p ≤ 4294967295)) = true := q.1
        rw [Bool.and_eq_true] at q1
        exact ⟨p, z, rfl, of_decide_eq_true q1.1, fun H' r hr => .lst (L2.SqL.of hr) (L2.dw_ints _)⟩
#print axioms PySem.Challenge.cw_unparted_s01_height_holds
