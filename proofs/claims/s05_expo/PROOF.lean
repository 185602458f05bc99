import PyProof.Rows.All
import Wide.All
import OpenK.AllK
import Wide.FinOn
import Open.SpecLaws
import KE.OsHead
import KE.OsGo
import HandS.ForSpec
import HandS.Iter
import PySem.Challenge.RW_unparted_s05_expo
set_option Elab.async false
set_option maxRecDepth 100000
set_option maxHeartbeats 2000000
namespace My
open Sn90
/-! ## factorials, and in how many ways k of n can be chosen -/
theorem fact_zero : fact 0 = 1 := rfl
theorem fact_succ (n : Nat) : fact (n + 1) = fact n * (n + 1) := by
  unfold fact
  rw [List.range_succ, List.map_append, List.foldl_append]
  rfl
theorem fact_pos : ∀ n : Nat, 0 < fact n
  | 0 => Nat.one_pos
  | n + 1 => by
    rw [fact_succ]
    exact Nat.mul_pos (fact_pos n) (Nat.succ_pos n)
theorem fact_dvd : ∀ (n k : Nat), k ≤ n → fact k ∣ fact n
  | 0, k, h => by
    have e : k = 0 := by omega
    subst e
    exact Nat.dvd_refl _
  | n + 1, k, h => by
    by_cases c : k = n + 1
    · subst c
      exact Nat.dvd_refl _
    · rw [fact_succ]
      exact Nat.dvd_trans (fact_dvd n k (by omega)) (Nat.dvd_mul_right _ _)
/-- number k of expo -/
def ex (n k : Nat) : Nat := fact n / fact k
theorem ex_self (n : Nat) : ex n n = 1 := Nat.div_self (fact_pos n)
theorem ex_zero (n : Nat) : ex n 0 = fact n := Nat.div_one _
theorem ex_mul {n k : Nat} (h : k ≤ n) : ex n k * fact k = fact n := Nat.div_mul_cancel (fact_dvd n k h)
theorem ex_step {n k : Nat} (h : k < n) : ex n k = ex n (k + 1) * (k + 1) := by
  refine Nat.eq_of_mul_eq_mul_right (fact_pos k) ?_
  have := ex_mul (n := n) (k := k + 1) (by omega)
  rw [ex_mul (by omega), ← this, fact_succ, Nat.mul_assoc (ex n (k + 1)), Nat.mul_comm (fact k)]
theorem ex_div {n k : Nat} (h : k < n) : ex n (k + 1) = ex n k / (k + 1) := by
  rw [ex_step h, Nat.mul_div_cancel _ (Nat.succ_pos k)]
theorem choose_zero : ∀ n : Nat, choose n 0 = 1
  | 0 => rfl
  | _ + 1 => rfl
theorem choose_succ (n k : Nat) : choose (n + 1) (k + 1) = choose n k + choose n (k + 1) := rfl
theorem choose_gt : ∀ (n k : Nat), n < k → choose n k = 0
  | 0, k + 1, _ => rfl
  | n + 1, k + 1, h => by rw [choose_succ, choose_gt n k (by omega), choose_gt n (k + 1) (by omega)]
theorem choose_self : ∀ n : Nat, choose n n = 1
  | 0 => rfl
  | n + 1 => by rw [choose_succ, choose_self n, choose_gt n (n + 1) (by omega)]
theorem choose_fact : ∀ (n k : Nat), k ≤ n → choose n k * fact k * fact (n - k) = fact n
  | n, 0, _ => by rw [choose_zero, fact_zero, Nat.sub_zero, Nat.one_mul]
  | n + 1, k + 1, h => by
    rw [choose_succ, Nat.add_sub_add_right]
    have h1 := choose_fact n k (by omega)
    by_cases c : k = n
    · subst c
      rw [choose_self, choose_gt k (k + 1) (by omega), Nat.sub_self, fact_zero]
      omega
    · have h2 := choose_fact n (k + 1) (by omega)
      have e : n - k = (n - (k + 1)) + 1 := by omega
      have e2 : (n - (k + 1)) + 1 = n - k := by omega
      rw [Nat.add_mul, Nat.add_mul, fact_succ n]
      have a : choose n k * fact (k + 1) * fact (n - k) = fact n * (k + 1) := by
        rw [fact_succ k, ← h1]
        simp only [Nat.mul_assoc, Nat.mul_comm, Nat.mul_left_comm]
      have b : choose n (k + 1) * fact (k + 1) * fact (n - k) = fact n * (n - k) := by
        rw [e, fact_succ (n - (k + 1)), e2, ← h2]
        simp only [Nat.mul_assoc, Nat.mul_comm, Nat.mul_left_comm]
      rw [a, b, ← Nat.mul_add]
      congr 1
      omega
theorem choose_step {n k : Nat} (h : k < n) : choose n (k + 1) * (k + 1) = choose n k * (n - k) := by
  have h1 := choose_fact n k (by omega)
  have h2 := choose_fact n (k + 1) (by omega)
  have e : n - k = (n - (k + 1)) + 1 := by omega
  refine Nat.eq_of_mul_eq_mul_right (Nat.mul_pos (fact_pos k) (fact_pos (n - (k + 1)))) ?_
  have a : choose n (k + 1) * (k + 1) * (fact k * fact (n - (k + 1))) = fact n := by
    rw [← h2, fact_succ]
    simp only [Nat.mul_assoc, Nat.mul_comm, Nat.mul_left_comm]
  have b : choose n k * (n - k) * (fact k * fact (n - (k + 1))) = fact n := by
    rw [← h1, e, fact_succ]
    simp only [Nat.mul_assoc, Nat.mul_comm, Nat.mul_left_comm]
  rw [a, b]
theorem choose_div {n k : Nat} (h : k < n) : choose n (k + 1) = choose n k * (n - k) / (k + 1) := by
  rw [← choose_step h, Nat.mul_div_cancel _ (Nat.succ_pos k)]
theorem choose_ex {n k : Nat} (h : k ≤ n) : choose n k = ex n k / fact (n - k) := by
  have h1 := choose_fact n k h
  have h2 := ex_mul h
  rw [Nat.mul_right_comm] at h1
  have e : ex n k = choose n k * fact (n - k) := Nat.eq_of_mul_eq_mul_right (fact_pos k) (by rw [h1, h2])
  rw [e, Nat.mul_div_cancel _ (fact_pos _)]
theorem choose_sym {n k : Nat} (h : k ≤ n) : choose n (n - k) = choose n k := by
  have h1 := choose_fact n k h
  have h2 := choose_fact n (n - k) (by omega)
  rw [show n - (n - k) = k by omega] at h2
  refine Nat.eq_of_mul_eq_mul_right (Nat.mul_pos (fact_pos k) (fact_pos (n - k))) ?_
  rw [← Nat.mul_assoc, ← Nat.mul_assoc, h1, Nat.mul_right_comm, h2]
/-- number k of laguerre, without its sign -/
def lg (n k : Nat) : Nat := choose n k * ex n k
theorem lg_step {n k : Nat} (h : k < n) : lg n (k + 1) * ((k + 1) * (k + 1)) = lg n k * (n - k) := by
  unfold lg
  rw [ex_step h, show choose n k * (ex n (k + 1) * (k + 1)) * (n - k) = (choose n k * (n - k)) * (ex n (k + 1) * (k + 1)) by rw [Nat.mul_right_comm], ← choose_step h]
  simp only [Nat.mul_assoc, Nat.mul_comm, Nat.mul_left_comm]
/-- how large these grow -/
theorem ex_le {n k : Nat} (hk : k ≤ n) (hn : n ≤ 20) : ex n k ≤ 2432902008176640000 := by
  have h : ∀ n, n < 21 → ∀ k, k < 21 → fact n / fact k ≤ 2432902008176640000 := by decide +kernel
  exact h n (by omega) k (by omega)
theorem choose_le {n k : Nat} (hk : k ≤ n) (hn : n ≤ 20) : choose n k ≤ 184756 := by
  have h : ∀ n, n < 21 → ∀ k, k < 21 → choose n k ≤ 184756 := by decide +kernel
  exact h n (by omega) k (by omega)
theorem lg_le {n k : Nat} (hk : k ≤ n) (hn : n ≤ 18) : lg n k < 9223372036854775807 := by
  have h : ∀ n, n < 19 → ∀ k, k < 19 → choose n k * (fact n / fact k) < 9223372036854775807 := by decide +kernel
  exact h n (by omega) k (by omega)
end My
namespace My
/-! ## what expo and laguerre answer -/
theorem in_of {n lo hi : Int} (h : Sn90.between n lo hi = true) : lo ≤ n ∧ n ≤ hi := by
  unfold Sn90.between at h
  rw [Bool.and_eq_true] at h
  exact ⟨of_decide_eq_true h.1, of_decide_eq_true h.2⟩
theorem in_no {n lo hi : Int} (h : n < lo ∨ hi < n) : Sn90.between n lo hi = false := by
  unfold Sn90.between
  rw [Bool.and_eq_false_iff]
  rcases h with z | z
  · exact .inl (decide_eq_false (by omega))
  · exact .inr (decide_eq_false (by omega))
theorem in_yes {n lo hi : Int} (h1 : lo ≤ n) (h2 : n ≤ hi) : Sn90.between n lo hi = true := by
  unfold Sn90.between
  rw [decide_eq_true h1, decide_eq_true h2]
  rfl
theorem expo_2 {n : Int} (h : Sn90.between n 0 20 = false) : PySn90.expo n = [-2] := by
  show (match Sn90Neutral.answered (.expo n) with | some a => a.v :: a.l | none => []) = _
  unfold Sn90Neutral.answered
  dsimp only
  rw [if_pos h]
  rfl
theorem expo_ok {n : Int} (h : Sn90.between n 0 20 = true) : PySn90.expo n = 0 :: (List.range (n.toNat + 1)).map fun k => ((ex n.toNat k : Nat) : Int) := by
  show (match Sn90Neutral.answered (.expo n) with | some a => a.v :: a.l | none => []) = _
  unfold Sn90Neutral.answered
  dsimp only
  rw [h, if_neg (by decide)]
  rfl
theorem laguerre_2 {n : Int} (h : Sn90.between n 0 18 = false) : PySn90.laguerre n = [-2] := by
  show (match Sn90Neutral.answered (.laguerre n) with | some a => a.v :: a.l | none => []) = _
  unfold Sn90Neutral.answered
  dsimp only
  rw [if_pos h]
  rfl
/-- number k of laguerre -/
def lgz (n k : Nat) : Int := (if k % 2 = 0 then (1 : Int) else -1) * ((lg n k : Nat) : Int)
theorem laguerre_ok {n : Int} (h : Sn90.between n 0 18 = true) : PySn90.laguerre n = 0 :: (List.range (n.toNat + 1)).map fun k => lgz n.toNat k := by
  show (match Sn90Neutral.answered (.laguerre n) with | some a => a.v :: a.l | none => []) = _
  unfold Sn90Neutral.answered
  dsimp only
  rw [h, if_neg (by decide)]
  rfl
theorem lgz_even {n k : Nat} (h : k % 2 = 0) : lgz n k = ((lg n k : Nat) : Int) := by
  unfold lgz
  rw [if_pos h, Int.one_mul]
theorem lgz_odd {n k : Nat} (h : k % 2 ≠ 0) : lgz n k = -((lg n k : Nat) : Int) := by
  unfold lgz
  rw [if_neg h, Int.neg_one_mul]
end My
namespace My
open PySem PySem.Spec PyProof.Rows L2
/-! ## the text by its places -/
def top (i : Nat) : Stmt := PySem.Challenge.pw_unparted_s05_expo.main.body.getD i (.Pass ⟨0, 0, 0, 0⟩)
abbrev sQuot : Stmt := top 1
abbrev sExpo : Stmt := top 3
end My
namespace My
open PySem PySem.Spec PyProof.Rows L2
open PySem.W (Codec)
/-! ## list_quotients -/
theorem same_put {H0 H : Hp} {r : Addr} {o : HO} (s : Same H0 H) (h : H0 r = none) : Same H0 (upd H r o) := fun b u e => by
  rw [upd_ne (ne_of_none e h)]
  exact s _ _ e
theorem same_new {H : Hp} {r : Addr} (h : H r = none) (o : HO) : Same H (upd H r o) := same_put (fun _ _ e => e) h
/-- the first many of the numbers that g tells -/
def nums (many : Nat) (g : Nat → Int) : List V := (List.range many).map fun k => V.int (g k)
theorem nums_len (many : Nat) (g : Nat → Int) : (nums many g).length = many := by
  unfold nums
  rw [List.length_map, List.length_range]
theorem nums_snoc (many : Nat) (g : Nat → Int) : nums (many + 1) g = nums many g ++ [V.int (g many)] := by
  unfold nums
  rw [List.range_succ, List.map_append]
  rfl
theorem nums_at {many k : Nat} {g : Nat → Int} (h : k < many) : (nums many g)[k]? = some (.int (g k)) := by
  unfold nums
  rw [List.getElem?_map, List.getElem?_range h]
  rfl
theorem nums_rev (n : Nat) (g : Nat → Int) : (nums (n + 1) fun j => g (n - j)).reverse = nums (n + 1) g := by
  apply List.ext_getElem?
  intro i
  by_cases h : i < n + 1
  · rw [List.getElem?_reverse (by rw [nums_len]; exact h), nums_len, nums_at h, nums_at (by omega)]
    congr 3
    omega
  · rw [List.getElem?_eq_none (by rw [List.length_reverse, nums_len]; omega), List.getElem?_eq_none (by rw [nums_len]; omega)]
theorem nums_put (many : Nat) (g : Nat → Int) : [V.int 0] ++ nums many g = ((0 : Int) :: (List.range many).map g).map V.int := by
  unfold nums
  rw [List.map_cons, List.map_map]
  rfl
def spQuot : Sp := fun vs H Q _ => ∃ n : Nat, vs = [.int (n : Int)] ∧ n ≤ 20 ∧ ∀ (H' : Hp) (r : Addr), Same H H' → H' r = some (.lst (nums (n + 1) fun k => ((ex n k : Nat) : Int))) → Q (.ref r) H'
theorem quot_turn {n i : Nat} (h : i < n) : ((ex n (n - i) : Nat) : Int) * ((n : Int) + (i : Int) * (-1)) = ((ex n (n - (i + 1)) : Nat) : Int) := by
  rw [ex_step (n := n) (k := n - (i + 1)) (by omega), show n - (i + 1) + 1 = n - i by omega, Int.natCast_mul]
  congr 1
  omega
section
variable {P : Program} {w : World} {K : PySem.W.Frag} {mg : Str → Option Value} {base : Heap}
theorem scQuot : FnScope ["n", "quotient", "quotients", "factor"] ["n"] (defScope sQuot) := ⟨rfl, rfl, rfl, by decide +kernel, rfl, by decide +kernel, by decide +kernel⟩
theorem ok_quot {f : Addr} {fd : FuncData} (F : Fun K "list_quotients" "list_quotients" sQuot f fd) (mr : mg "range" = none) : FnOk P w K mg base CX0 1 f fd ["n"] spQuot := by
  refine F.ok scQuot (fun vs H Q E h => ?_) (fun cdv A outer s H vs Q E hr h => ?_)
  · obtain ⟨n, rfl, _⟩ := h
    rfl
  · obtain ⟨n, rfl, hn, q⟩ := h
    refine ⟨_, pss_cons (ps_set (i := 1) scQuot.nd rfl (.inl rfl) pe_int)
      (pss_cons (ps_set (i := 2) scQuot.nd rfl (.inl rfl) (pe_lst (pa_cons (pv 1) pa_nil)))
      (pss_cons (ps_for PassesOwn.never rfl (pi_range3 rfl mr (pa_cons (pv 0) (pa_cons pe_int (pa_cons (pe_un un_neg pe_int) pa_nil)))) (pg_name (i := 3) scQuot.nd rfl (.inl rfl))
        (pss_cons (ps_set (i := 1) scQuot.nd rfl (.inl rfl) (pe_op op_mul (pv 1) (pv 3)))
        (pss_one (ps_expr (pe_bm PySem.F.plainAttrs_list PySem.F.slot_list_append PySem.F.type_list_append mt_append (pv 2) (pa_cons (pv 1) pa_nil))))))
      (pss_cons (ps_expr (pe_bm0 PySem.F.plainAttrs_list PySem.F.slot_list_reverse PySem.F.type_list_reverse mt_reverse (pv 2)))
      (pss_one (ps_ret (pv 2)))))), ?_⟩
    refine ⟨_, rfl, (by show 1 ≤ sizeLine; decide), fun r hr0 => ?_⟩
    refine ⟨_, rfl, _, rfl, (n : Int), 0, -1, ((n : Int) - 0).toNat, rfl, RgC.neg (by omega) (by omega) (by omega) (by omega),
      for_rangeC (lo := (n : Int)) (c := -1) (n := ((n : Int) - 0).toNat) (fun i σ H' => ∃ v3 : Option V, σ = [some (.int (n : Int)), some (.int ((ex n (n - i) : Nat) : Int)), some (.ref r), v3] ∧ Same H H' ∧ H' r = some (.lst (nums (i + 1) fun j => ((ex n (n - j) : Nat) : Int))))
      ⟨none, by rw [Nat.sub_zero, ex_self]; rfl, same_new hr0 _, by rw [upd_same, nums_snoc, Nat.sub_zero, ex_self]; rfl⟩ ?_ ?_⟩
    · rintro i σ H' hi ⟨v3, rfl, s2, hr2⟩
      have hi2 : i < n := by omega
      have hb := ex_le (n := n) (k := n - i) (by omega) hn
      refine ⟨_, rfl, _, rfl, _, _, rfl, rfl, .inl ⟨by omega, by omega⟩, ?_⟩
      refine ⟨_, rfl, .inl ⟨rfl, _, SqL.of hr2⟩, _, rfl, r, _, _, rfl, rfl, hr2, small1000 (by rw [nums_len]; omega), ?_⟩
      exact ⟨_, by rw [← quot_turn hi2]; rfl, same_put s2 hr0, by rw [upd_same, nums_snoc (i + 1), ← quot_turn hi2]⟩
    · rintro σ H' ⟨v3, rfl, s2, hr2⟩
      rw [show ((n : Int) - 0).toNat = n by omega] at hr2
      refine ⟨_, rfl, .inl ⟨rfl, _, SqL.of hr2⟩, r, _, rfl, rfl, hr2, _, rfl, q _ r (same_put s2 hr0) ?_⟩
      rw [upd_same, nums_rev n fun k => ((ex n k : Nat) : Int)]
end
end My
namespace My
open PySem PySem.Spec PyProof.Rows L2
open PySem.W (Codec)
/-! ## expo -/
def spExpo : Sp := fun vs H Q _ => ∃ n : Int, vs = [.int n] ∧ ∀ (H' : Hp) (r : Addr), H' r = some (.lst ((PySn90.expo n).map V.int)) → Q (.ref r) H'
section
variable {P : Program} {w : World} {K : PySem.W.Frag} {mg : Str → Option Value} {base : Heap}
theorem scExpo : FnScope ["n"] ["n"] (defScope sExpo) := ⟨rfl, rfl, rfl, by decide +kernel, rfl, by decide +kernel, by decide +kernel⟩
theorem ok_expo {f fQ : Addr} {fd fdQ : FuncData} (F : Fun K "expo" "expo" sExpo f fd) (GQ : FnOk P w K mg base CX0 1 fQ fdQ ["n"] spQuot) (bQ : Binds K fdQ ["n"] []) (gQ : mg "list_quotients" = some (.ref fQ)) (kQ : PySem.W.keepIn K (.ref fQ) = true) :
    FnOk P w K mg base CX0 2 f fd ["n"] spExpo := by
  refine F.ok scExpo (fun vs H Q E h => ?_) (fun cdv A outer s H vs Q E hr h => ?_)
  · obtain ⟨n, rfl, _⟩ := h
    rfl
  · obtain ⟨n, rfl, q⟩ := h
    refine ⟨_, pss_cons (ps_if (PW.pt (pw_or (pt_cmpR op_lt (pv 0) pe_int (nomark _)) (pw_or1 (pt_cmpR op_gt (pv 0) pe_int (nomark _))))) (pss_one (ps_ret (pe_lst (pa_cons (pe_un un_neg pe_int) pa_nil)))) pss_nil)
      (pss_one (ps_ret (pe_op op_cat (pe_lst (pa_cons pe_int pa_nil)) (pe_call GQ hr (by rfl) gQ kQ bQ .nil pass0 (pa_cons (pv 0) pa_nil))))), ?_⟩
    have no2 : (n < 0 ∨ 20 < n) → ∀ r, Q (.ref r) (upd H r (.lst [.int (-2)])) := fun h r => q _ r (by
      rw [upd_same, expo_2 (in_no h)]
      rfl)
    refine ⟨_, rfl, _, _, rfl, rfl, _, rfl, ite2 (fun c => iteT ?_) (fun c => ⟨_, rfl, _, _, rfl, rfl, _, rfl, ite2 (fun c2 => ?_) (fun c2 => ?_)⟩)⟩
    · exact ⟨_, rfl, (by show 1 ≤ sizeLine; decide), fun r _ => no2 (.inl (of_decide_eq_true c)) r⟩
    · exact ⟨_, rfl, (by show 1 ≤ sizeLine; decide), fun r _ => no2 (.inr (of_decide_eq_true c2)) r⟩
    · have c1' : ¬ n < 0 := fun z => c (decide_eq_true z)
      have c2' : ¬ 20 < n := fun z => c2 (decide_eq_true z)
      have ok := expo_ok (in_yes (n := n) (lo := 0) (hi := 20) (by omega) (by omega))
      refine ⟨(by show 1 ≤ sizeLine; decide), fun r0 n0 => ?_⟩
      refine ⟨_, rfl, n.toNat, by rw [Int.toNat_of_nonneg (by omega)]; rfl, by omega, fun H1 r1 s1 e1 => ?_⟩
      refine ⟨r0, r1, _, _, rfl, rfl, s1 _ _ upd_same, e1, Nat.le_trans (by rw [List.length_singleton, nums_len]; omega) (by decide : 100 ≤ sizeLine), fun r5 n5 => q _ r5 ?_⟩
      rw [upd_same, ok]
      exact congrArg (fun x => some (HO.lst x)) (nums_put _ _)
end
end My
namespace My
open PySem PySem.Spec PyProof.Rows L2
/-! ## what the top has written -/
theorem all_mk {P : Program} {w : World} {K : PySem.W.Frag} {h : Heap} {mg : Str → Option Value} {fa f1 f2 : Addr} (X : K.In h) (G : h.Ns mainGlobals mg) (hfa : mg "expo" = some (.ref fa))
    {od1 an1 od2 an2 : Option Addr} {sl1 sl2 : Array (Option Value)} {oc1 kV1 dc1 pm1 cd1 ct1 oc2 kV2 dc2 pm2 cd2 ct2 : Value}
    (a1 : PySem.W.nsIn K mainGlobals "list_quotients" = some (some (.ref f1))) (l1 : K.lookup f1 = some ⟨oc1, od1, .func (PySem.W.fnOf "list_quotients" "list_quotients" (defArgs sQuot) (defBody sQuot) (defScope sQuot) .none kV1 dc1 pm1 an1 cd1 ct1), sl1⟩) (c1 : PySem.W.codeIn K cd1 "list_quotients" = true) (k1 : PySem.W.keepIn K (.ref f1) = true)
    (a2 : PySem.W.nsIn K mainGlobals "expo" = some (some (.ref f2))) (l2 : K.lookup f2 = some ⟨oc2, od2, .func (PySem.W.fnOf "expo" "expo" (defArgs sExpo) (defBody sExpo) (defScope sExpo) .none kV2 dc2 pm2 an2 cd2 ct2), sl2⟩) (c2 : PySem.W.codeIn K cd2 "expo" = true) (k2 : PySem.W.keepIn K (.ref f2) = true)
    (z1 : PySem.W.nsIn K mainGlobals "range" = some none) :
    ∃ fd : FuncData, (∀ (s : Shared) (us : List Value), us.length = (["n"] : List Str).length → BindsTo s fd ⟨us, []⟩ ((["n"] : List Str).zip us)) ∧ ∀ base : Heap, K.In base → base.Ns mainGlobals mg → FnOk P w K mg base CX0 2 fa fd ["n"] (spExpo) := by
  have e := hfa.symm.trans (PySem.W.mg_of X G a2)
  cases e
  have F1 := fun_mk (st := sQuot) l1 c1 k1
  have b1 := F1.binds (ps := ["n"]) fun _ _ _ _ _ _ us hl => match us, hl with | [_], _ => rfl
  have g1 := PySem.W.mg_of X G a1
  have F2 := fun_mk (st := sExpo) l2 c2 k2
  have b2 := F2.binds (ps := ["n"]) fun _ _ _ _ _ _ us hl => match us, hl with | [_], _ => rfl
  have g2 := PySem.W.mg_of X G a2
  have m1 := PySem.W.mg_none_of X G z1
  refine ⟨PySem.W.fnOf "expo" "expo" (defArgs sExpo) (defBody sExpo) (defScope sExpo) .none kV2 dc2 pm2 an2 cd2 ct2, fun s us hu => match us, hu with | [_], _ => .of_eq rfl, fun base _ _ => ?_⟩
  exact ok_expo F2 (ok_quot F1 m1) b1 g1 F1.kp
end My
open PySem PySem.W PyProof.Rows
set_option maxRecDepth 100000 in
set_option maxHeartbeats 0 in
theorem PySem.Challenge.cw_unparted_s05_expo_holds : PySem.Challenge.rw_unparted_s05_expo.Holds := by
  w_on; k_headS; (case hw => exact ⟨[.int 0], by decide +kernel, by decide +kernel⟩)
  k_fillS
  refine L2.walk_specK (r := PySem.Challenge.rw_unparted_s05_expo) (k := 2) (CX := L2.CX0) (ps := ["n"]) (sp := fun _ => My.spExpo) (by decide +kernel) rfl rfl ⟨rfl, by decide, by decide⟩ (fun w h Y => PySem.W.kIn_of Y) ?F ?S (fun _ _ _ _ z => z)
  case F =>
    intro w mg fa h Y KX G hmg
    refine' My.all_mk KX G hmg ?a1 ?l1 ?c1 ?k1 ?a2 ?l2 ?c2 ?k2 ?z1
    (case a1 => k_is); (case l1 => k_is); (case c1 => k_is); (case k1 => k_is)
    (case a2 => k_is); (case l2 => k_is); (case c2 => k_is); (case k2 => k_is)
    (case z1 => k_is)
  case S =>
    intro K H xs a hO hwi hask hx
    obtain ⟨n, u⟩ := a
    cases hx with
    | cons h1 h2 =>
      cases h1
      cases h2
      exact ⟨n, rfl, fun H' r hr => .lst (L2.SqL.of hr) (L2.dw_ints _)⟩
#print axioms PySem.Challenge.cw_unparted_s05_expo_holds
