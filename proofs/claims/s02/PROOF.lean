import PyProof.Rows.All
import Wide.All
import OpenK.AllK
import Wide.FinOn
import Open.SpecLaws
import KE.OsGo
import KE.BitLaws
import HandS.ForSpec
import HandS.Comp
import HandS.Iter
import HandS.Text
import PySem.Challenge.RW_towerflags_s02_after
set_option Elab.async false
set_option linter.all false
set_option maxRecDepth 100000
set_option maxHeartbeats 2000000
namespace My
/-! The mathematics: the state that comes of one, tower by tower. -/
theorem sum_acc (l : List Nat) : ∀ a : Nat, l.foldl (· + ·) a = a + l.foldl (· + ·) 0 := by
  induction l with
  | nil => intro a; rfl
  | cons x r ih =>
    intro a
    rw [List.foldl_cons, List.foldl_cons, ih (a + x), ih (0 + x)]
    omega
theorem next_zero (t : List Nat) (s : Nat) : Kzk1.next 0 t s = 0 := rfl
theorem next_succ (i : Nat) (t : List Nat) (s : Nat) : Kzk1.next (i + 1) t s = Kzk1.next i t s + (if Kzk1.isUp t i s = true then 2 ^ i else 0) := by
  unfold Kzk1.next Kzk1.make Kzk1.sum
  rw [List.range_succ, List.map_append, List.foldl_append, List.map_cons, List.map_nil, List.foldl_cons, List.foldl_nil]
theorem next_lt (t : List Nat) (s : Nat) : ∀ i : Nat, Kzk1.next i t s < 2 ^ i
  | 0 => by rw [next_zero]; decide
  | i + 1 => by
    have ih := next_lt t s i
    rw [next_succ, Nat.pow_succ]
    split <;> omega
theorem isUp_at {t : List Nat} {i r : Nat} (s : Nat) (h : t[i]? = some r) : (if Kzk1.isUp t i s = true then 2 ^ i else 0) = r / 2 ^ s % 2 * 2 ^ i := by
  have e : t.getD i 0 = r := by rw [List.getD_eq_getElem?_getD, h]; rfl
  unfold Kzk1.isUp Kzk1.bit
  rw [e]
  rcases Nat.mod_two_eq_zero_or_one (r / 2 ^ s) with z | z
  · rw [z, if_neg (by decide), Nat.zero_mul]
  · rw [z, if_pos (by decide), Nat.one_mul]
theorem next_turn {t : List Nat} {i r : Nat} (s : Nat) (h : t[i]? = some r) : Kzk1.next (i + 1) t s = Kzk1.next i t s + r / 2 ^ s % 2 * 2 ^ i := by
  rw [next_succ, isUp_at s h]
theorem after_zero (n : Nat) (t : List Nat) (s : Nat) : Kzk1.after n t 0 s = s := rfl
theorem after_succ (n : Nat) (t : List Nat) (k s : Nat) : Kzk1.after n t (k + 1) s = Kzk1.next n t (Kzk1.after n t k s) := by
  unfold Kzk1.after
  rw [List.range_succ, List.foldl_append]
  rfl
/-! What is refused. -/
theorem ok_iff (n : Nat) (t : List Nat) : Kzk1.okTowers n t = true ↔ 1 ≤ n ∧ n ≤ 4 ∧ t.length = n ∧ ∀ r ∈ t, r < 2 ^ 2 ^ n := by
  unfold Kzk1.okTowers
  simp [Bool.and_eq_true, and_assoc]
theorem ok_false {n : Nat} {t : List Nat} (h : ¬ (1 ≤ n ∧ n ≤ 4 ∧ t.length = n ∧ ∀ r ∈ t, r < 2 ^ 2 ^ n)) : Kzk1.okTowers n t = false := by
  cases e : Kzk1.okTowers n t with
  | false => rfl
  | true => exact absurd ((ok_iff n t).mp e) h
/-! What is due, call by call. -/
theorem nats_of (t : List Nat) : Kzk1Neutral.natsOf (t.map fun (x : Nat) => (x : Int)) = t := by
  unfold Kzk1Neutral.natsOf
  rw [List.map_map]
  exact (List.map_congr_left fun x _ => Int.toNat_natCast x).trans (List.map_id t)
def cast (t : List Nat) : List Int := t.map fun (x : Nat) => (x : Int)
theorem cast_of : ∀ {l : List Int}, (∀ x ∈ l, 0 ≤ x) → ∃ t : List Nat, l = cast t
  | [], _ => ⟨[], rfl⟩
  | x :: r, h => by
    obtain ⟨m, rfl⟩ := Int.eq_ofNat_of_zero_le (h x (List.mem_cons_self ..))
    obtain ⟨t, rfl⟩ := cast_of fun y hy => h y (List.mem_cons_of_mem _ hy)
    exact ⟨m :: t, rfl⟩
theorem due_next (n s : Nat) (t : List Nat) : PyKzk1.next_state n s (cast t) = if Kzk1.good n s t = false then [-22] else [((Kzk1.next n t s : Nat) : Int)] := by
  have e : PyKzk1.next_state n s (cast t) = (Kzk1.answer (.next n s (Kzk1Neutral.natsOf (cast t)))).value :: Kzk1Neutral.ints (Kzk1.answer (.next n s (Kzk1Neutral.natsOf (cast t)))).nums := rfl
  rw [e, show Kzk1Neutral.natsOf (cast t) = t from nats_of t]
  show (if Kzk1.good n s t = false then Kzk1.say (-22) else Kzk1.say (Kzk1.next n t s : Nat)).value :: Kzk1Neutral.ints (if Kzk1.good n s t = false then Kzk1.say (-22) else Kzk1.say (Kzk1.next n t s : Nat)).nums = _
  split <;> rfl
theorem due_after (n s k : Nat) (t : List Nat) : PyKzk1.after n s k (cast t) = if Kzk1.good n s t = false ∨ 1000 < k then [-22] else [((Kzk1.after n t k s : Nat) : Int)] := by
  have e : PyKzk1.after n s k (cast t) = (Kzk1.answer (.after n s k (Kzk1Neutral.natsOf (cast t)))).value :: Kzk1Neutral.ints (Kzk1.answer (.after n s k (Kzk1Neutral.natsOf (cast t)))).nums := rfl
  rw [e, show Kzk1Neutral.natsOf (cast t) = t from nats_of t]
  show (if Kzk1.good n s t = false ∨ 1000 < k then Kzk1.say (-22) else Kzk1.say (Kzk1.after n t k s : Nat)).value :: Kzk1Neutral.ints (if Kzk1.good n s t = false ∨ 1000 < k then Kzk1.say (-22) else Kzk1.say (Kzk1.after n t k s : Nat)).nums = _
  split <;> rfl
theorem good_eq (n s : Nat) (t : List Nat) : Kzk1.good n s t = (Kzk1.okTowers n t && decide (s < 2 ^ n)) := rfl
end My
namespace My
open PySem PySem.Spec PyProof.Rows L2
open PySem.W (Codec)
/-! ### The heap, loops -/
theorem same_new {H : Hp} {p : Addr} {o : HO} (h : H p = none) : Same H (upd H p o) := fun b x e => by
  rw [upd_ne (ne_of_none e h)]
  exact e
/-- a walk over enumerate of a list that stands still -/
theorem for_enum {K : PySem.W.Frag} {a : Addr} {xs : List V} {g : TG} {tb : TS} {D : Ends} {σ : L2.St} {H : Hp} (Pv : Nat → L2.St → Hp → Prop) (h0 : Pv 0 σ H) (hl : ∀ i σ H, i ≤ xs.length → Pv i σ H → SqL K H a xs)
    (hs : ∀ (i : Nat) (x : V) (T : Addr) (σ : L2.St) (H : Hp), xs[i]? = some x → Pv i σ H → H T = none → g (.ref T) σ (upd H T (.tup [.int (i : Nat), x])) fun σ2 H2 => tb { D with nx := Pv (i + 1), ct := Pv (i + 1), bk := D.nx } σ2 H2) (hd : ∀ σ H, Pv xs.length σ H → D.nx σ H) :
    ∃ W : Nat → Nat → L2.St → Hp → Prop, (∃ m, W 0 m σ H) ∧ ∀ i m σ H, W i m σ H →
      ((Ite K a).stop i H ∧ D.nx σ H) ∨ ((Ite K a).go i H ∧ ∃ N : L2.St → Hp → Prop, (∀ σ' H', N σ' H' → ∃ m', m' < m ∧ W (i + 1) m' σ' H') ∧ ∀ x H', (Ite K a).yld i H x H' → g x σ H' fun σ2 H2 => tb { D with nx := N, ct := N, bk := D.nx } σ2 H2) := by
  refine ⟨fun i m σ H => m = xs.length - i ∧ i ≤ xs.length ∧ Pv i σ H, ⟨xs.length, by simp, Nat.zero_le _, h0⟩, ?_⟩
  rintro i m σ H ⟨rfl, hi, p⟩
  have q := hl i σ H hi p
  by_cases hlt : i < xs.length
  · refine .inr ⟨⟨xs, xs[i], q, by simp [hlt]⟩, Pv (i + 1), fun σ' H' p' => ⟨xs.length - (i + 1), by omega, rfl, hlt, p'⟩, fun x H' y => ?_⟩
    obtain ⟨T, z, rfl, nT, rfl, f⟩ := y
    exact hs i z T σ H (f xs q) p nT
  · have e : i = xs.length := by omega
    subst e
    exact .inl ⟨⟨xs, q, Nat.le_refl _⟩, hd σ H p⟩
/-! ### Numbers as the program reckons them -/
def tV (t : List Nat) : List V := (cast t).map V.int
theorem tV_len (t : List Nat) : (tV t).length = t.length := by
  unfold tV cast
  rw [List.length_map, List.length_map]
theorem tV_at {t : List Nat} {i : Nat} {y : V} (h : (tV t)[i]? = some y) : ∃ r : Nat, t[i]? = some r ∧ y = .int (r : Nat) := by
  unfold tV cast at h
  rw [List.getElem?_map, List.getElem?_map] at h
  cases e : t[i]? with
  | none =>
    rw [e] at h
    cases h
  | some r =>
    rw [e] at h
    exact ⟨r, rfl, (Option.some.inj h).symm⟩
theorem pow_cast (n : Nat) : (2 : Int) ^ n = ((2 ^ n : Nat) : Int) := by
  rw [Int.natCast_pow]
  rfl
theorem shl_one (n : Nat) : (1 : Int) * 2 ^ ((n : Nat) : Int).toNat = ((2 ^ n : Nat) : Int) := by
  rw [Int.toNat_natCast, Int.one_mul, pow_cast]
theorem flag_is (r s : Nat) : Builtin.bitAnd ((r : Int) / 2 ^ ((s : Nat) : Int).toNat) 1 = ((r / 2 ^ s % 2 : Nat) : Int) := by
  rw [bitAnd_m1, Int.toNat_natCast, pow_cast]
  rfl
theorem behind_is {t : List Nat} {i r : Nat} (s : Nat) (h : t[i]? = some r) :
    Builtin.bitOr ((Kzk1.next i t s : Nat) : Int) (((r / 2 ^ s % 2 : Nat) : Int) * 2 ^ ((i : Nat) : Int).toNat) = ((Kzk1.next (i + 1) t s : Nat) : Int) := by
  have hlt : ((Kzk1.next i t s : Nat) : Int) < 2 ^ i := by
    rw [pow_cast]
    exact Int.ofNat_lt.mpr (next_lt t s i)
  rw [Int.toNat_natCast, Bits.bitOr_join (Int.natCast_nonneg _) hlt (Int.natCast_nonneg _), next_turn s h, pow_cast, ← Int.natCast_mul, ← Int.natCast_add]
theorem small_flag (r s i : Nat) (hi : i ≤ 1000) : CPow ((r / 2 ^ s % 2 : Nat) : Int) ((i : Nat) : Int) := by
  refine ⟨by omega, by omega, ?_⟩
  rw [Int.natAbs_natCast]
  exact Nat.lt_of_lt_of_le (Nat.mod_lt _ (by decide)) (by decide)
theorem small_one (n : Nat) (hn : n ≤ 1000000) : CPow 1 ((n : Nat) : Int) := ⟨by omega, by omega, by decide⟩
/-! ### The text -/
def top (i : Nat) : Stmt := PySem.Challenge.pw_towerflags_s02_after.main.body.getD i (.Pass ⟨0, 0, 0, 0⟩)
abbrev sFit : Stmt := top 4
abbrev sBehind : Stmt := top 6
theorem scFit : FnScope ["n", "t", "too_large", "rule"] ["n", "t"] (defScope sFit) := ⟨rfl, rfl, rfl, by decide +kernel, rfl, by decide +kernel, by decide +kernel⟩
theorem scBehind : FnScope ["s", "t", "behind", "j", "rule", "flag"] ["s", "t"] (defScope sBehind) := ⟨rfl, rfl, rfl, by decide +kernel, rfl, by decide +kernel, by decide +kernel⟩
/-! ### The promises -/
def spFit (K : PySem.W.Frag) : Sp := fun vs H Q _ => ∃ (a : Addr) (n : Nat) (t : List Nat), vs = [.int (n : Nat), .ref a] ∧ SqL K H a (tV t) ∧ Q (.bl (Kzk1.okTowers n t)) H
def spBehind (K : PySem.W.Frag) : Sp := fun vs H Q _ => ∃ (a : Addr) (s : Nat) (t : List Nat), vs = [.int (s : Nat), .ref a] ∧ SqL K H a (tV t) ∧ t.length ≤ 1000 ∧
  ∀ H', Same H H' → Q (.int ((Kzk1.next t.length t s : Nat) : Int)) H'
section
variable {P : Program} {w : World} {K : PySem.W.Frag} {mg : Str → Option Value} {base : Heap}
/-! ### rules_fit -/
theorem ok_fit {f : Addr} {fd : FuncData} (F : Fun K "rules_fit" "rules_fit" sFit f fd) {u4 : Tok} (g4 : mg "MOST_TOWERS" = some (.int 4 u4)) (ml : mg "len" = none) : FnOk P w K mg base CX0 1 f fd ["n", "t"] (spFit K) := by
  refine F.ok scFit (fun vs H Q E h => ?_) (fun cdv A outer s H vs Q E hr h => ?_)
  · obtain ⟨a, n, t, rfl, _⟩ := h
    rfl
  · obtain ⟨a, n, t, rfl, hS, q⟩ := h
    refine ⟨_, pss_cons (ps_if (PW.pt (pw_or (pt_cmpR op_lt (pv 0) pe_int (nomark _)) (pw_or (pt_cmpR op_gt (pv 0) (pe_glob (v := .int 4) rfl g4 ⟨_, rfl⟩) (nomark _))
          (pw_or1 (pt_cmpR op_ne (pe_callB call_len_seq (by rfl) ml PySem.boot_len (pa_cons (pv 1) pa_nil)) (pv 0) (nomark _)))))) (pss_one (ps_ret pe_bl)) pss_nil)
      (pss_cons (ps_set (i := 2) scFit.nd rfl (.inl rfl) (pe_op op_shl pe_int (pe_op op_shl pe_int (pv 0))))
      (pss_cons (ps_for PassesOwn.never rfl (pi_list (pv 1)) (pg_name (i := 3) scFit.nd rfl (.inl rfl))
        (pss_one (ps_if (pt_cmpR op_ge (pv 3) (pv 2) (nomark _)) (pss_one (ps_ret pe_bl)) pss_nil)))
      (pss_one (ps_ret pe_bl)))), ?_⟩
    -- n < 1
    refine ⟨_, rfl, _, _, rfl, rfl, _, rfl, ite2 (fun e => iteT ?_) (fun e1 => ?_)⟩
    · have c : (n : Int) < 1 := of_decide_eq_true e
      rw [ok_false (n := n) (t := t) (by omega)] at q
      exact q
    -- n > MOST_TOWERS
    refine ⟨_, rfl, _, _, rfl, rfl, _, rfl, ite2 (fun e => iteT ?_) (fun e2 => ?_)⟩
    · have c : (4 : Int) < n := of_decide_eq_true e
      rw [ok_false (n := n) (t := t) (by omega)] at q
      exact q
    -- len(t) != n
    refine ⟨_, rfl, a, tV t, rfl, .inl hS, _, rfl, rfl, _, rfl, ite2 (fun e => ?_) (fun e3 => ?_)⟩
    · have c : t.length ≠ n := fun z => by
        rw [tV_len, z, decide_eq_true rfl] at e
        cases e
      rw [ok_false (n := n) (t := t) (fun z => c z.2.2.1)] at q
      exact q
    have c1 : ¬ (n : Int) < 1 := fun z => e1 (decide_eq_true z)
    have c2 : ¬ (4 : Int) < n := fun z => e2 (decide_eq_true z)
    have c3 : t.length = n := by
      by_cases z : t.length = n
      · exact z
      · refine absurd ?_ e3
        have z2 : ¬ V.int ((tV t).length : Int) = V.int (n : Int) := fun y => by
          rw [tV_len] at y
          exact z (Int.ofNat.inj (V.int.inj y))
        rw [decide_eq_false z2]
        rfl
    -- too_large = 1 << (1 << n)
    refine ⟨_, rfl, 1, _, rfl, rfl, small_one n (by omega), ?_⟩
    dsimp only
    rw [shl_one]
    have hp : 2 ^ n ≤ 1000000 := Nat.le_trans (Nat.pow_le_pow_right (by decide) (show n ≤ 4 by omega)) (by decide)
    refine ⟨1, _, rfl, rfl, small_one (2 ^ n) hp, ?_⟩
    dsimp only
    rw [shl_one]
    -- for rule in t
    refine ⟨_, rfl, a, rfl, ⟨_, hS⟩, for_list (K := K) (a := a) (xs := tV t) (fun i σ H' => ∃ v : Option V, σ = [some (.int (n : Nat)), some (.ref a), some (.int ((2 ^ 2 ^ n : Nat) : Int)), v] ∧ H' = H ∧ ∀ (j r : Nat), j < i → t[j]? = some r → r < 2 ^ 2 ^ n)
      ⟨none, rfl, rfl, fun j r hj => absurd hj (Nat.not_lt_zero j)⟩ (fun i σ H' _ ⟨_, _, e, _⟩ => by rw [e]; exact hS) ?_ ?_⟩
    · rintro i y σ H' hi ⟨v, rfl, rfl, hA⟩
      obtain ⟨r, hr', rfl⟩ := tV_at hi
      refine ⟨_, rfl, _, rfl, _, _, rfl, rfl, _, rfl, ite2 (fun e => ?_) (fun e => ?_)⟩
      · have c : ((2 ^ 2 ^ n : Nat) : Int) ≤ r := of_decide_eq_true e
        have c' : 2 ^ 2 ^ n ≤ r := Int.ofNat_le.mp c
        rw [ok_false (n := n) (t := t) (fun z => absurd (z.2.2.2 r (List.mem_of_getElem? hr')) (Nat.not_lt.mpr c'))] at q
        exact q
      · have c : ¬ ((2 ^ 2 ^ n : Nat) : Int) ≤ r := fun z => e (decide_eq_true z)
        have c' : r < 2 ^ 2 ^ n := Nat.not_le.mp fun z => c (Int.ofNat_le.mpr z)
        refine ⟨some (.int (r : Nat)), rfl, rfl, fun j r' hj h' => ?_⟩
        by_cases z : j = i
        · rw [z, hr'] at h'
          rw [← Option.some.inj h']
          exact c'
        · exact hA j r' (by omega) h'
    · rintro σ H' ⟨v, rfl, rfl, hA⟩
      rw [tV_len] at hA
      have ok : Kzk1.okTowers n t = true := (ok_iff n t).mpr ⟨by omega, by omega, c3, fun r hr' => by
        obtain ⟨j, hj⟩ := List.mem_iff_getElem?.mp hr'
        have hlt : j < t.length := by
          by_cases z : j < t.length
          · exact z
          · rw [List.getElem?_eq_none (by omega)] at hj
            cases hj
        exact hA j r hlt hj⟩
      rw [ok] at q
      exact q
/-! ### state_behind -/
theorem ok_behind {f : Addr} {fd : FuncData} (F : Fun K "state_behind" "state_behind" sBehind f fd) (me : mg "enumerate" = none) : FnOk P w K mg base CX0 1 f fd ["s", "t"] (spBehind K) := by
  refine F.ok scBehind (fun vs H Q E h => ?_) (fun cdv A outer sh H vs Q E hr h => ?_)
  · obtain ⟨a, s, t, rfl, _⟩ := h
    rfl
  · obtain ⟨a, s, t, rfl, hS, hl, q⟩ := h
    refine ⟨_, pss_cons (ps_set (i := 2) scBehind.nd rfl (.inl rfl) pe_int)
      (pss_cons (ps_for PassesOwn.never rfl (pi_enum (by rfl) me (pa_cons (pv 1) pa_nil))
          (pg_tup rfl (pgs_cons (pg_name (i := 3) scBehind.nd rfl (.inl rfl)) (pgs_cons (pg_name (i := 4) scBehind.nd rfl (.inl rfl)) pgs_nil)))
        (pss_cons (ps_set (i := 5) scBehind.nd rfl (.inl rfl) (pe_op op_and (pe_op op_shr (pv 4) (pv 0)) pe_int))
        (pss_one (ps_set (i := 2) scBehind.nd rfl (.inl rfl) (pe_op op_or (pv 2) (pe_op op_shl (pv 5) (pv 3)))))))
      (pss_one (ps_ret (pv 2)))), ?_⟩
    refine ⟨_, rfl, a, tV t, rfl, hS, for_enum (K := K) (a := a) (xs := tV t) (fun i σ H' => ∃ v3 v4 v5 : Option V, σ = [some (.int (s : Nat)), some (.ref a), some (.int ((Kzk1.next i t s : Nat) : Int)), v3, v4, v5] ∧ Same H H')
      ⟨none, none, none, rfl, Same.refl H⟩ (fun i σ H' _ ⟨_, _, _, _, sm⟩ => sm.seq hS) ?_ ?_⟩
    · rintro i y T σ H' hi ⟨v3, v4, v5, rfl, sm⟩ nT
      obtain ⟨r, hr', rfl⟩ := tV_at hi
      have hil : i < t.length := by
        by_cases z : i < t.length
        · exact z
        · rw [List.getElem?_eq_none (by omega)] at hr'
          cases hr'
      -- j, rule = the pair
      refine ⟨T, _, rfl, SqT.of upd_same, rfl, _, _, rfl, _, _, rfl, rfl, ?_⟩
      -- flag = (rule >> s) & 1
      refine ⟨_, rfl, _, rfl, _, _, rfl, rfl, (by omega), _, _, rfl, rfl, ?_⟩
      dsimp only
      rw [flag_is]
      -- behind = behind | (flag << j)
      refine ⟨_, rfl, _, rfl, _, rfl, _, _, rfl, rfl, small_flag r s i (by omega), _, _, rfl, rfl, ?_⟩
      dsimp only
      rw [behind_is s hr']
      exact ⟨_, _, _, rfl, sm.trans (same_new nT)⟩
    · rintro σ H' ⟨v3, v4, v5, rfl, sm⟩
      rw [tV_len]
      exact ⟨_, rfl, q H' sm⟩
end
end My
namespace My
open PySem PySem.Spec PyProof.Rows L2
open PySem.W (Codec)
abbrev sState : Stmt := top 5
theorem scState : FnScope ["n", "s", "t"] ["n", "s", "t"] (defScope sState) := ⟨rfl, rfl, rfl, by decide +kernel, rfl, by decide +kernel, by decide +kernel⟩
def spState (K : PySem.W.Frag) : Sp := fun vs H Q _ => ∃ (a : Addr) (n s : Nat) (t : List Nat), vs = [.int (n : Nat), .int (s : Nat), .ref a] ∧ SqL K H a (tV t) ∧ Q (.bl (Kzk1.good n s t)) H
theorem good_true {n s : Nat} {t : List Nat} (h : Kzk1.good n s t = true) : Kzk1.okTowers n t = true ∧ s < 2 ^ n := by
  rw [good_eq, Bool.and_eq_true, decide_eq_true_iff] at h
  exact h
section
variable {P : Program} {w : World} {K : PySem.W.Frag} {mg : Str → Option Value} {base : Heap}
/-! ### state_fits -/
theorem ok_state {f f1 : Addr} {fd fd1 : FuncData} (F : Fun K "state_fits" "state_fits" sState f fd) (F1 : Fun K "rules_fit" "rules_fit" sFit f1 fd1) (b1 : Binds K fd1 ["n", "t"] []) (g1 : mg "rules_fit" = some (.ref f1))
    {u4 : Tok} (g4 : mg "MOST_TOWERS" = some (.int 4 u4)) (ml : mg "len" = none) : FnOk P w K mg base CX0 2 f fd ["n", "s", "t"] (spState K) := by
  have G1 : FnOk P w K mg base CX0 1 f1 fd1 ["n", "t"] (spFit K) := ok_fit F1 g4 ml
  refine F.ok scState (fun vs H Q E h => ?_) (fun cdv A outer sh H vs Q E hr h => ?_)
  · obtain ⟨a, n, s, t, rfl, _⟩ := h
    rfl
  · obtain ⟨a, n, s, t, rfl, hS, q⟩ := h
    refine ⟨_, pss_one (ps_ret (pe_and (pe_call G1 hr (by rfl) g1 F1.kp b1 .nil pass0 (pa_cons (pv 0) (pa_cons (pv 2) pa_nil)))
      (pe_one (pe_cmpR op_lt (pv 1) (pe_op op_shl pe_int (pv 0)) (nomark _))))), ?_⟩
    rw [good_eq] at q
    refine ⟨_, rfl, _, rfl, a, n, t, rfl, hS, _, rfl, ?_⟩
    cases c : Kzk1.okTowers n t with
    | false =>
      rw [c, Bool.false_and] at q
      exact iteF q
    | true =>
      rw [c, Bool.true_and] at q
      have h4 := ((ok_iff n t).mp c).2.1
      refine iteT ⟨_, rfl, _, rfl, 1, _, rfl, rfl, small_one n (by omega), ?_⟩
      dsimp only
      rw [shl_one]
      refine ⟨_, _, rfl, rfl, ?_⟩
      have e : decide (((s : Nat) : Int) < ((2 ^ n : Nat) : Int)) = decide (s < 2 ^ n) := by
        rw [Bool.eq_iff_iff, decide_eq_true_iff, decide_eq_true_iff]
        exact Int.ofNat_lt
      show Q (V.bl (decide (((s : Nat) : Int) < ((2 ^ n : Nat) : Int)))) H
      rw [e]
      exact q
end
end My
namespace My
open PySem PySem.Spec PyProof.Rows L2
open PySem.W (Codec)
abbrev sAfter : Stmt := top 7
theorem scAfter : FnScope ["n", "s", "k", "t", "state", "step"] ["n", "s", "k", "t"] (defScope sAfter) := ⟨rfl, rfl, rfl, by decide +kernel, rfl, by decide +kernel, by decide +kernel⟩
def spAfter (K : PySem.W.Frag) : Sp := fun vs H Q _ => ∃ (a : Addr) (n s k : Nat) (t : List Nat), vs = [.int (n : Nat), .int (s : Nat), .int (k : Nat), .ref a] ∧ SqL K H a (tV t) ∧
  ∀ (H' : Hp) (p : Addr), H' p = some (.lst ((PyKzk1.after n s k (cast t)).map V.int)) → Q (.ref p) H'
section
variable {P : Program} {w : World} {K : PySem.W.Frag} {mg : Str → Option Value} {base : Heap}
theorem ok_after {f f1 f2 f3 : Addr} {fd fd1 fd2 fd3 : FuncData} (F : Fun K "after" "after" sAfter f fd) (F1 : Fun K "rules_fit" "rules_fit" sFit f1 fd1) (b1 : Binds K fd1 ["n", "t"] []) (F2 : Fun K "state_fits" "state_fits" sState f2 fd2) (b2 : Binds K fd2 ["n", "s", "t"] [])
    (F3 : Fun K "state_behind" "state_behind" sBehind f3 fd3) (b3 : Binds K fd3 ["s", "t"] []) (g1 : mg "rules_fit" = some (.ref f1)) (g2 : mg "state_fits" = some (.ref f2)) (g3 : mg "state_behind" = some (.ref f3))
    {uR uT uS : Tok} (gR : mg "REFUSED" = some (.int (-22) uR)) (gT : mg "MOST_TOWERS" = some (.int 4 uT)) (gS : mg "MOST_STEPS" = some (.int 1000 uS)) (ml : mg "len" = none) (me : mg "enumerate" = none) (mr : mg "range" = none) :
    FnOk P w K mg base CX0 3 f fd ["n", "s", "k", "t"] (spAfter K) := by
  have G2 : FnOk P w K mg base CX0 2 f2 fd2 ["n", "s", "t"] (spState K) := ok_state F2 F1 b1 g1 gT ml
  have G3 : FnOk P w K mg base CX0 1 f3 fd3 ["s", "t"] (spBehind K) := ok_behind F3 me
  refine F.ok scAfter (fun vs H Q E h => ?_) (fun cdv A outer sh H vs Q E hr h => ?_)
  · obtain ⟨a, n, s, k, t, rfl, _⟩ := h
    rfl
  · obtain ⟨a, n, s, k, t, rfl, hS, q⟩ := h
    refine ⟨_, pss_cons (ps_if (PW.pt (pw_or (pt_not (pt_val (pe_call G2 hr (by rfl) g2 F2.kp b2 .nil pass0 (pa_cons (pv 0) (pa_cons (pv 1) (pa_cons (pv 3) pa_nil))))))
          (pw_or1 (pt_cmpR op_gt (pv 2) (pe_glob (v := .int 1000) rfl gS ⟨_, rfl⟩) (nomark _)))))
        (pss_one (ps_ret (pe_lst (pa_cons (pe_glob (v := .int (-22)) rfl gR ⟨_, rfl⟩) pa_nil)))) pss_nil)
      (pss_cons (ps_set (i := 4) scAfter.nd rfl (.inl rfl) (pv 1))
      (pss_cons (ps_for PassesOwn.never rfl (pi_range1 rfl mr (pa_cons (pv 2) pa_nil)) (pg_name (i := 5) scAfter.nd rfl (.inl rfl))
        (pss_one (ps_set (i := 4) scAfter.nd rfl (.inl rfl) (pe_call G3 (hr.mono (by decide)) (by rfl) g3 F3.kp b3 .nil pass0 (pa_cons (pv 4) (pa_cons (pv 3) pa_nil))))))
      (pss_one (ps_ret (pe_lst (pa_cons (pv 4) pa_nil)))))), ?_⟩
    rw [due_after] at q
    -- what is refused: [REFUSED]
    have refuse : Kzk1.good n s t = false ∨ 1000 < k → ∀ p, H p = none → Q (.ref p) (upd H p (.lst [.int (-22)])) := fun c p _ => by
      rw [if_pos c] at q
      exact q _ p upd_same
    -- state_fits(n, s, t)
    refine ⟨_, rfl, _, rfl, _, rfl, a, n, s, t, rfl, hS, _, rfl, ?_⟩
    cases c : Kzk1.good n s t with
    | false => exact iteT (iteT ⟨by show 1 ≤ sizeLine; decide, refuse (.inl c)⟩)
    | true =>
      obtain ⟨ok, hs⟩ := good_true c
      obtain ⟨h1, h4, hl, _⟩ := (ok_iff n t).mp ok
      -- k > MOST_STEPS
      refine iteF ⟨_, rfl, _, _, rfl, rfl, _, rfl, ite2 (fun e => ?_) (fun e3 => ?_)⟩
      · have c : (1000 : Int) < k := of_decide_eq_true e
        exact ⟨by show 1 ≤ sizeLine; decide, refuse (.inr (by omega))⟩
      have c3 : ¬ (1000 : Int) < k := fun z => e3 (decide_eq_true z)
      rw [c, if_neg (by rintro (z | z); · cases z
                        · omega)] at q
      -- state = s; for step in range(k)
      refine ⟨_, rfl, _, rfl, _, rfl, by omega, by omega, for_range (lo := 0) (n := ((k : Nat) : Int).toNat) (fun i σ H' => ∃ v : Option V, σ = [some (.int (n : Nat)), some (.int (s : Nat)), some (.int (k : Nat)), some (.ref a), some (.int ((Kzk1.after n t i s : Nat) : Int)), v] ∧ Same H H')
        ⟨none, rfl, Same.refl H⟩ ?_ ?_⟩
      · rintro i σ H' hi ⟨v, rfl, sm⟩
        refine ⟨_, rfl, _, rfl, a, Kzk1.after n t i s, t, rfl, sm.seq hS, by omega, fun H2 s2 => ?_⟩
        rw [hl, ← after_succ]
        exact ⟨_, rfl, sm.trans s2⟩
      · rintro σ H' ⟨v, rfl, sm⟩
        rw [Int.toNat_natCast]
        exact ⟨_, rfl, by show 1 ≤ sizeLine; decide, fun p hp => q _ p upd_same⟩
end
end My
namespace My
open PySem PySem.Spec PyProof.Rows L2
open PySem.W (Codec)
/-! ### The end -/
theorem all_mk {P : Program} {w : World} {K : PySem.W.Frag} {h : Heap} {mg : Str → Option Value} {fa f1 f2 f3 f4 : Addr} {u0 u1 u2 : Tok} (X : K.In h) (G : h.Ns mainGlobals mg) (hfa : mg "after" = some (.ref fa))
    {od1 an1 od2 an2 od3 an3 od4 an4 : Option Addr} {sl1 sl2 sl3 sl4 : Array (Option Value)} {oc1 kV1 dc1 pm1 cd1 ct1 oc2 kV2 dc2 pm2 cd2 ct2 oc3 kV3 dc3 pm3 cd3 ct3 oc4 kV4 dc4 pm4 cd4 ct4 : Value}
    (a1 : PySem.W.nsIn K mainGlobals "rules_fit" = some (some (.ref f1))) (l1 : K.lookup f1 = some ⟨oc1, od1, .func (PySem.W.fnOf "rules_fit" "rules_fit" (defArgs sFit) (defBody sFit) (defScope sFit) .none kV1 dc1 pm1 an1 cd1 ct1), sl1⟩) (c1 : PySem.W.codeIn K cd1 "rules_fit" = true) (k1 : PySem.W.keepIn K (.ref f1) = true)
    (a2 : PySem.W.nsIn K mainGlobals "state_fits" = some (some (.ref f2))) (l2 : K.lookup f2 = some ⟨oc2, od2, .func (PySem.W.fnOf "state_fits" "state_fits" (defArgs sState) (defBody sState) (defScope sState) .none kV2 dc2 pm2 an2 cd2 ct2), sl2⟩) (c2 : PySem.W.codeIn K cd2 "state_fits" = true) (k2 : PySem.W.keepIn K (.ref f2) = true)
    (a3 : PySem.W.nsIn K mainGlobals "state_behind" = some (some (.ref f3))) (l3 : K.lookup f3 = some ⟨oc3, od3, .func (PySem.W.fnOf "state_behind" "state_behind" (defArgs sBehind) (defBody sBehind) (defScope sBehind) .none kV3 dc3 pm3 an3 cd3 ct3), sl3⟩) (c3 : PySem.W.codeIn K cd3 "state_behind" = true) (k3 : PySem.W.keepIn K (.ref f3) = true)
    (a4 : PySem.W.nsIn K mainGlobals "after" = some (some (.ref f4))) (l4 : K.lookup f4 = some ⟨oc4, od4, .func (PySem.W.fnOf "after" "after" (defArgs sAfter) (defBody sAfter) (defScope sAfter) .none kV4 dc4 pm4 an4 cd4 ct4), sl4⟩) (c4 : PySem.W.codeIn K cd4 "after" = true) (k4 : PySem.W.keepIn K (.ref f4) = true)
    (e0 : PySem.W.nsIn K mainGlobals "REFUSED" = some (some (.int (-22) u0)))
    (e1 : PySem.W.nsIn K mainGlobals "MOST_TOWERS" = some (some (.int (4) u1)))
    (e2 : PySem.W.nsIn K mainGlobals "MOST_STEPS" = some (some (.int (1000) u2)))
    (z0 : PySem.W.nsIn K mainGlobals "len" = some none)
    (z1 : PySem.W.nsIn K mainGlobals "enumerate" = some none)
    (z2 : PySem.W.nsIn K mainGlobals "range" = some none)
    : ∃ fd : FuncData, (∀ (s : Shared) (us : List Value), us.length = (["n", "s", "k", "t"] : List Str).length → BindsTo s fd ⟨us, []⟩ ((["n", "s", "k", "t"] : List Str).zip us)) ∧ ∀ base : Heap, K.In base → base.Ns mainGlobals mg → FnOk P w K mg base CX0 3 fa fd ["n", "s", "k", "t"] (spAfter K) := by
  have e := hfa.symm.trans (PySem.W.mg_of X G a4)
  cases e
  have F1 := fun_mk (st := sFit) l1 c1 k1
  have F2 := fun_mk (st := sState) l2 c2 k2
  have F3 := fun_mk (st := sBehind) l3 c3 k3
  have F4 := fun_mk (st := sAfter) l4 c4 k4
  have b1 := F1.binds (ps := ["n", "t"]) fun _ _ _ _ _ _ us hl => match us, hl with | [_, _], _ => rfl
  have b2 := F2.binds (ps := ["n", "s", "t"]) fun _ _ _ _ _ _ us hl => match us, hl with | [_, _, _], _ => rfl
  have b3 := F3.binds (ps := ["s", "t"]) fun _ _ _ _ _ _ us hl => match us, hl with | [_, _], _ => rfl
  exact ⟨PySem.W.fnOf "after" "after" (defArgs sAfter) (defBody sAfter) (defScope sAfter) .none kV4 dc4 pm4 an4 cd4 ct4, fun s us hu => match us, hu with | [_, _, _, _], _ => .of_eq rfl,
    fun base _ _ => ok_after F4 F1 b1 F2 b2 F3 b3 (PySem.W.mg_of X G a1) (PySem.W.mg_of X G a2) (PySem.W.mg_of X G a3) (PySem.W.mg_of X G e0) (PySem.W.mg_of X G e1) (PySem.W.mg_of X G e2) (PySem.W.mg_none_of X G z0) (PySem.W.mg_none_of X G z1) (PySem.W.mg_none_of X G z2)⟩
end My
open PySem PySem.W PyProof.Rows
set_option maxRecDepth 100000 in
set_option maxHeartbeats 8000000 in
theorem PySem.Challenge.cw_towerflags_s02_after_holds : PySem.Challenge.rw_towerflags_s02_after.Holds := by
  w_on; k_headS; (case hw => exact ⟨[.int 1, .int 0, .int 0, .list []], by decide +kernel, by decide +kernel⟩)
  k_fillS
  refine L2.walk_specK (r := PySem.Challenge.rw_towerflags_s02_after) (k := 3) (CX := L2.CX0) (ps := ["n", "s", "k", "t"]) (sp := My.spAfter) (by decide +kernel) rfl rfl ⟨rfl, by decide, by decide⟩ (fun w h Y => PySem.W.kIn_of Y) ?F ?S (fun _ _ _ _ z => z)
  case F =>
    intro w mg fa h Y KX G hmg
    refine' My.all_mk KX G hmg ?a1 ?l1 ?c1 ?k1 ?a2 ?l2 ?c2 ?k2 ?a3 ?l3 ?c3 ?k3 ?a4 ?l4 ?c4 ?k4 ?e0 ?e1 ?e2 ?z0 ?z1 ?z2
    (case a1 => k_is)
    (case l1 => k_is)
    (case c1 => k_is)
    (case k1 => k_is)
    (case a2 => k_is)
    (case l2 => k_is)
    (case c2 => k_is)
    (case k2 => k_is)
    (case a3 => k_is)
    (case l3 => k_is)
    (case c3 => k_is)
    (case k3 => k_is)
    (case a4 => k_is)
    (case l4 => k_is)
    (case c4 => k_is)
    (case k4 => k_is)
    (case e0 => k_is)
    (case e1 => k_is)
    (case e2 => k_is)
    (case z0 => k_is)
    (case z1 => k_is)
    (case z2 => k_is)
  case S =>
    intro K H xs a hO hwi hask hx
    obtain ⟨n', s', k', t', u⟩ := a
    have q : (Codec.inInt 0 4294967295 n' && (Codec.inInt 0 4294967295 s' && (Codec.inInt 0 4294967295 k' && ((Codec.inLen 0 10 t' && t'.all (Codec.inInt 0 65535)) && true)))) = true := hwi
    simp only [Bool.and_eq_true, Bool.and_true] at q
    obtain ⟨qn, qs, qk, ql, qt⟩ := q
    obtain ⟨n, rfl⟩ := Int.eq_ofNat_of_zero_le (Codec.inInt_iff.mp qn).1
    obtain ⟨s, rfl⟩ := Int.eq_ofNat_of_zero_le (Codec.inInt_iff.mp qs).1
    obtain ⟨k, rfl⟩ := Int.eq_ofNat_of_zero_le (Codec.inInt_iff.mp qk).1
    obtain ⟨t, rfl⟩ := My.cast_of fun x hx => (Codec.inInt_iff.mp (List.all_eq_true.mp qt x hx)).1
    cases hx with
    | cons c0 d0 =>
      cases d0 with
      | cons c1 d1 =>
        cases d1 with
        | cons c2 d2 =>
          cases d2 with
          | cons c3 d3 =>
            cases d3
            cases c0
            cases c1
            cases c2
            cases c3 with
            | lst hs ha =>
              have e := L2.ints_dw (My.cast t) _ ha
              subst e
              exact ⟨_, n, s, k, t, rfl, hs, fun H' p hp => .lst (L2.SqL.of hp) (L2.dw_ints _)⟩
#print axioms PySem.Challenge.cw_towerflags_s02_after_holds
