import PyProof.Rows.All
import Wide.All
import OpenK.AllK
import Wide.FinOn
import Open.SpecLaws
import KE.OsGo
import KE.BitLaws
import HandS.ForSpec
import HandS.Comp
import HandS.Iter
import HandS.Text
import PySem.Challenge.RW_towerflags_s07_basin
set_option Elab.async false
set_option linter.all false
set_option maxRecDepth 100000
set_option maxHeartbeats 2000000
namespace My
/-! The mathematics: the state that comes of one, tower by tower. -/
theorem sum_acc (l : List Nat) : ∀ a : Nat, l.foldl (· + ·) a = a + l.foldl (· + ·) 0 := by
  induction l with
  | nil => intro a; rfl
  | cons x r ih =>
    intro a
    rw [List.foldl_cons, List.foldl_cons, ih (a + x), ih (0 + x)]
    omega
theorem next_zero (t : List Nat) (s : Nat) : Kzk1.next 0 t s = 0 := rfl
theorem next_succ (i : Nat) (t : List Nat) (s : Nat) : Kzk1.next (i + 1) t s = Kzk1.next i t s + (if Kzk1.isUp t i s = true then 2 ^ i else 0) := by
  unfold Kzk1.next Kzk1.make Kzk1.sum
  rw [List.range_succ, List.map_append, List.foldl_append, List.map_cons, List.map_nil, List.foldl_cons, List.foldl_nil]
theorem next_lt (t : List Nat) (s : Nat) : ∀ i : Nat, Kzk1.next i t s < 2 ^ i
  | 0 => by rw [next_zero]; decide
  | i + 1 => by
    have ih := next_lt t s i
    rw [next_succ, Nat.pow_succ]
    split <;> omega
theorem isUp_at {t : List Nat} {i r : Nat} (s : Nat) (h : t[i]? = some r) : (if Kzk1.isUp t i s = true then 2 ^ i else 0) = r / 2 ^ s % 2 * 2 ^ i := by
  have e : t.getD i 0 = r := by rw [List.getD_eq_getElem?_getD, h]; rfl
  unfold Kzk1.isUp Kzk1.bit
  rw [e]
  rcases Nat.mod_two_eq_zero_or_one (r / 2 ^ s) with z | z
  · rw [z, if_neg (by decide), Nat.zero_mul]
  · rw [z, if_pos (by decide), Nat.one_mul]
theorem next_turn {t : List Nat} {i r : Nat} (s : Nat) (h : t[i]? = some r) : Kzk1.next (i + 1) t s = Kzk1.next i t s + r / 2 ^ s % 2 * 2 ^ i := by
  rw [next_succ, isUp_at s h]
theorem after_zero (n : Nat) (t : List Nat) (s : Nat) : Kzk1.after n t 0 s = s := rfl
theorem after_succ (n : Nat) (t : List Nat) (k s : Nat) : Kzk1.after n t (k + 1) s = Kzk1.next n t (Kzk1.after n t k s) := by
  unfold Kzk1.after
  rw [List.range_succ, List.foldl_append]
  rfl
/-! What is refused. -/
theorem ok_iff (n : Nat) (t : List Nat) : Kzk1.okTowers n t = true ↔ 1 ≤ n ∧ n ≤ 4 ∧ t.length = n ∧ ∀ r ∈ t, r < 2 ^ 2 ^ n := by
  unfold Kzk1.okTowers
  simp [Bool.and_eq_true, and_assoc]
theorem ok_false {n : Nat} {t : List Nat} (h : ¬ (1 ≤ n ∧ n ≤ 4 ∧ t.length = n ∧ ∀ r ∈ t, r < 2 ^ 2 ^ n)) : Kzk1.okTowers n t = false := by
  cases e : Kzk1.okTowers n t with
  | false => rfl
  | true => exact absurd ((ok_iff n t).mp e) h
/-! What is due, call by call. -/
theorem nats_of (t : List Nat) : Kzk1Neutral.natsOf (t.map fun (x : Nat) => (x : Int)) = t := by
  unfold Kzk1Neutral.natsOf
  rw [List.map_map]
  exact (List.map_congr_left fun x _ => Int.toNat_natCast x).trans (List.map_id t)
def cast (t : List Nat) : List Int := t.map fun (x : Nat) => (x : Int)
theorem cast_of : ∀ {l : List Int}, (∀ x ∈ l, 0 ≤ x) → ∃ t : List Nat, l = cast t
  | [], _ => ⟨[], rfl⟩
  | x :: r, h => by
    obtain ⟨m, rfl⟩ := Int.eq_ofNat_of_zero_le (h x (List.mem_cons_self ..))
    obtain ⟨t, rfl⟩ := cast_of fun y hy => h y (List.mem_cons_of_mem _ hy)
    exact ⟨m :: t, rfl⟩
theorem due_next (n s : Nat) (t : List Nat) : PyKzk1.next_state n s (cast t) = if Kzk1.good n s t = false then [-22] else [((Kzk1.next n t s : Nat) : Int)] := by
  have e : PyKzk1.next_state n s (cast t) = (Kzk1.answer (.next n s (Kzk1Neutral.natsOf (cast t)))).value :: Kzk1Neutral.ints (Kzk1.answer (.next n s (Kzk1Neutral.natsOf (cast t)))).nums := rfl
  rw [e, show Kzk1Neutral.natsOf (cast t) = t from nats_of t]
  show (if Kzk1.good n s t = false then Kzk1.say (-22) else Kzk1.say (Kzk1.next n t s : Nat)).value :: Kzk1Neutral.ints (if Kzk1.good n s t = false then Kzk1.say (-22) else Kzk1.say (Kzk1.next n t s : Nat)).nums = _
  split <;> rfl
theorem due_after (n s k : Nat) (t : List Nat) : PyKzk1.after n s k (cast t) = if Kzk1.good n s t = false ∨ 1000 < k then [-22] else [((Kzk1.after n t k s : Nat) : Int)] := by
  have e : PyKzk1.after n s k (cast t) = (Kzk1.answer (.after n s k (Kzk1Neutral.natsOf (cast t)))).value :: Kzk1Neutral.ints (Kzk1.answer (.after n s k (Kzk1Neutral.natsOf (cast t)))).nums := rfl
  rw [e, show Kzk1Neutral.natsOf (cast t) = t from nats_of t]
  show (if Kzk1.good n s t = false ∨ 1000 < k then Kzk1.say (-22) else Kzk1.say (Kzk1.after n t k s : Nat)).value :: Kzk1Neutral.ints (if Kzk1.good n s t = false ∨ 1000 < k then Kzk1.say (-22) else Kzk1.say (Kzk1.after n t k s : Nat)).nums = _
  split <;> rfl
theorem good_eq (n s : Nat) (t : List Nat) : Kzk1.good n s t = (Kzk1.okTowers n t && decide (s < 2 ^ n)) := rfl
end My
namespace My
/-! Ways and rounds. -/
theorem after_add (n : Nat) (t : List Nat) (s j : Nat) : ∀ k : Nat, Kzk1.after n t (j + k) s = Kzk1.after n t k (Kzk1.after n t j s)
  | 0 => rfl
  | k + 1 => by rw [← Nat.add_assoc, after_succ, after_add n t s j k, after_succ]
theorem after_lt {n : Nat} {t : List Nat} {s : Nat} (h : s < 2 ^ n) : ∀ k : Nat, Kzk1.after n t k s < 2 ^ n
  | 0 => h
  | k + 1 => by
    rw [after_succ]
    exact next_lt t _ n
theorem after_same {n : Nat} {t : List Nat} {s i j : Nat} (h : Kzk1.after n t i s = Kzk1.after n t j s) (k : Nat) : Kzk1.after n t (i + k) s = Kzk1.after n t (j + k) s := by
  rw [after_add, after_add, h]
/-- no more different numbers below N than N -/
theorem few : ∀ (N : Nat) (l : List Nat), l.Nodup → (∀ x ∈ l, x < N) → l.length ≤ N
  | 0, l, _, h => by
    cases l with
    | nil => exact Nat.le_refl _
    | cons x r => exact absurd (h x (List.mem_cons_self ..)) (Nat.not_lt_zero x)
  | N + 1, l, hd, h => by
    by_cases m : N ∈ l
    · have e := List.length_erase_of_mem m
      have ih := few N (l.erase N) (hd.erase N) fun x hx => by
        have a := (hd.mem_erase_iff.mp hx)
        have b := h x a.2
        have c := a.1
        omega
      have p : 0 < l.length := List.length_pos_of_mem m
      omega
    · have ih := few N l hd fun x hx => by
        have b := h x hx
        have c : x ≠ N := fun z => m (z ▸ hx)
        omega
      omega
theorem nodup_way {n : Nat} {t : List Nat} {s : Nat} : ∀ {m : Nat}, (∀ i j, i < j → j < m → Kzk1.after n t i s ≠ Kzk1.after n t j s) → ((List.range m).map fun i => Kzk1.after n t i s).Nodup := fun {m} h => by
  rw [List.nodup_iff_pairwise_ne, List.pairwise_map]
  exact List.Pairwise.imp_of_mem (fun {a b} ha hb hab => h a b hab (List.mem_range.mp hb)) List.pairwise_lt_range
theorem way_few {n : Nat} {t : List Nat} {s m : Nat} (hs : s < 2 ^ n) (h : ∀ i j, i < j → j < m → Kzk1.after n t i s ≠ Kzk1.after n t j s) : m ≤ 2 ^ n := by
  have f := few (2 ^ n) _ (nodup_way h) fun x hx => by
    obtain ⟨i, _, rfl⟩ := List.mem_map.mp hx
    exact after_lt hs i
  rw [List.length_map, List.length_range] at f
  exact f
theorem onRound_iff (n : Nat) (t : List Nat) (x : Nat) : Kzk1.onRound n t x = true ↔ ∃ k, k < 2 ^ n ∧ Kzk1.after n t (k + 1) x = x := by
  unfold Kzk1.onRound Kzk1.states
  rw [List.any_eq_true]
  constructor
  · rintro ⟨k, hk, e⟩
    exact ⟨k, List.mem_range.mp hk, eq_of_beq e⟩
  · rintro ⟨k, hk, e⟩
    exact ⟨k, List.mem_range.mpr hk, beq_iff_eq.mpr e⟩
/-- the way of s: m different states, the next one is that of place w -/
structure Way (n : Nat) (t : List Nat) (s m w : Nat) : Prop where
  hs : s < 2 ^ n
  apart : ∀ i j, i < j → j < m → Kzk1.after n t i s ≠ Kzk1.after n t j s
  hw : w < m
  back : Kzk1.after n t m s = Kzk1.after n t w s
namespace Way
variable {n : Nat} {t : List Nat} {s m w : Nat}
theorem le (W : Way n t s m w) : m ≤ 2 ^ n := way_few W.hs W.apart
/-- far enough on, every state is one of the round's places -/
theorem far (W : Way n t s m w) : ∀ i : Nat, w ≤ i → ∃ j, w ≤ j ∧ j < m ∧ Kzk1.after n t i s = Kzk1.after n t j s := fun i => by
  induction i with
  | zero =>
    intro h
    exact ⟨0, h, by have := W.hw; omega, rfl⟩
  | succ i ih =>
    intro h
    by_cases z : w ≤ i
    · obtain ⟨j, h1, h2, h3⟩ := ih z
      have e : Kzk1.after n t (i + 1) s = Kzk1.after n t (j + 1) s := after_same h3 1
      by_cases y : j + 1 < m
      · exact ⟨j + 1, by omega, y, e⟩
      · have y2 : j + 1 = m := by omega
        refine ⟨w, Nat.le_refl _, W.hw, ?_⟩
        rw [e, y2, W.back]
    · have z2 : i + 1 = w := by omega
      exact ⟨w, Nat.le_refl _, W.hw, by rw [z2]⟩
/-- places of the way that are alike are the same place -/
theorem inj (W : Way n t s m w) {i j : Nat} (hi : i < m) (hj : j < m) (e : Kzk1.after n t i s = Kzk1.after n t j s) : i = j := by
  by_cases a : i < j
  · exact absurd e (W.apart i j a hj)
  · by_cases b : j < i
    · exact absurd e.symm (W.apart j i b hi)
    · omega
theorem again (W : Way n t s m w) {k q : Nat} (h : Kzk1.after n t (k + q) s = Kzk1.after n t k s) : ∀ l : Nat, Kzk1.after n t (k + q * l) s = Kzk1.after n t k s
  | 0 => by rw [Nat.mul_zero, Nat.add_zero]
  | l + 1 => by
    have e : k + q * (l + 1) = (k + q * l) + q := by rw [Nat.mul_succ, Nat.add_assoc]
    rw [e, after_same (again W h l) q, h]
/-- ahead of place w none is on a round -/
theorem off (W : Way n t s m w) {k : Nat} (hk : k < w) : Kzk1.onRound n t (Kzk1.after n t k s) = false := by
  cases e : Kzk1.onRound n t (Kzk1.after n t k s) with
  | false => rfl
  | true =>
    obtain ⟨p, _, h⟩ := (onRound_iff n t _).mp e
    rw [← after_add] at h
    have g := W.again h w
    have big : w ≤ k + (p + 1) * w := by
      have : w ≤ (p + 1) * w := Nat.le_mul_of_pos_left w (Nat.succ_pos p)
      omega
    obtain ⟨j, h1, h2, h3⟩ := W.far _ big
    rw [g] at h3
    exact absurd h3 (W.apart k j (by omega) h2)
theorem on (W : Way n t s m w) : Kzk1.onRound n t (Kzk1.after n t w s) = true := by
  have h1 := W.hw
  have h2 := W.le
  refine (onRound_iff n t _).mpr ⟨m - w - 1, by omega, ?_⟩
  rw [← after_add, show w + (m - w - 1 + 1) = m by omega, W.back]
theorem tail (W : Way n t s m w) : Kzk1.tail n t s = w := by
  have h1 := W.hw
  have h2 := W.le
  unfold Kzk1.tail
  have g : (List.range (2 ^ n + 1)).find? (fun k => Kzk1.onRound n t (Kzk1.after n t k s)) = some w :=
    List.find?_range_eq_some.mpr ⟨W.on, List.mem_range.mpr (by omega), fun j hj => by rw [W.off hj]; rfl⟩
  rw [g]
  rfl
theorem long (W : Way n t s m w) : Kzk1.long n t (Kzk1.after n t w s) = m - w := by
  have h1 := W.hw
  have h2 := W.le
  unfold Kzk1.long Kzk1.states
  have g : (List.range (2 ^ n)).find? (fun k => Kzk1.after n t (k + 1) (Kzk1.after n t w s) == Kzk1.after n t w s) = some (m - w - 1) := by
    refine List.find?_range_eq_some.mpr ⟨?_, List.mem_range.mpr (by omega), fun j hj => ?_⟩
    · rw [← after_add, show w + (m - w - 1 + 1) = m by omega, W.back]
      exact beq_self_eq_true _
    · rw [← after_add]
      have ne := W.apart w (w + (j + 1)) (by omega) (by omega)
      rw [beq_eq_false_iff_ne.mpr ne.symm]
      rfl
  rw [g]
  show m - w - 1 + 1 = m - w
  omega
theorem round (W : Way n t s m w) : Kzk1.round n t s = (List.range (m - w)).map fun k => Kzk1.after n t (w + k) s := by
  unfold Kzk1.round
  rw [W.tail]
  show (List.range (Kzk1.long n t (Kzk1.after n t w s))).map (fun k => Kzk1.after n t k (Kzk1.after n t w s)) = _
  rw [W.long]
  exact List.map_congr_left fun k _ => (after_add n t s w k).symm
end Way
/-- the states of the way, in order -/
def way (n : Nat) (t : List Nat) (s m : Nat) : List Nat := (List.range m).map fun i => Kzk1.after n t i s
theorem way_len (n : Nat) (t : List Nat) (s m : Nat) : (way n t s m).length = m := by
  unfold way
  rw [List.length_map, List.length_range]
theorem way_succ (n : Nat) (t : List Nat) (s m : Nat) : way n t s (m + 1) = way n t s m ++ [Kzk1.after n t m s] := by
  unfold way
  rw [List.range_succ, List.map_append]
  rfl
theorem way_at {n : Nat} {t : List Nat} {s m i : Nat} (h : i < m) : (way n t s m)[i]? = some (Kzk1.after n t i s) := by
  unfold way
  rw [List.getElem?_map, List.getElem?_range h]
  rfl
theorem mem_way {n : Nat} {t : List Nat} {s m x : Nat} : x ∈ way n t s m ↔ ∃ i, i < m ∧ Kzk1.after n t i s = x := by
  unfold way
  rw [List.mem_map]
  constructor
  · rintro ⟨i, hi, e⟩
    exact ⟨i, List.mem_range.mp hi, e⟩
  · rintro ⟨i, hi, e⟩
    exact ⟨i, List.mem_range.mpr hi, e⟩
theorem way_drop (n : Nat) (t : List Nat) (s m w : Nat) : (way n t s m).drop w = (List.range (m - w)).map fun k => Kzk1.after n t (w + k) s := by
  unfold way
  apply List.ext_getElem?
  intro i
  rw [List.getElem?_drop, List.getElem?_map, List.getElem?_map]
  by_cases h : i < m - w
  · rw [List.getElem?_range h, List.getElem?_range (show w + i < m by omega)]
    rfl
  · rw [List.getElem?_eq_none (by rw [List.length_range]; omega), List.getElem?_eq_none (by rw [List.length_range]; omega)]
    rfl
theorem Way.round_drop {n : Nat} {t : List Nat} {s m w : Nat} (W : Way n t s m w) : Kzk1.round n t s = (way n t s m).drop w := by
  rw [W.round, way_drop]
/-- every state has a way -/
theorem has_way {n : Nat} {t : List Nat} {s : Nat} (hs : s < 2 ^ n) : ∃ m w, Way n t s m w := by
  have key : ∀ d m : Nat, m + d = 2 ^ n + 1 → (∀ i j, i < j → j < m → Kzk1.after n t i s ≠ Kzk1.after n t j s) → ∃ m w, Way n t s m w := by
    intro d
    induction d with
    | zero =>
      intro m e h
      have f := way_few hs h
      omega
    | succ d ih =>
      intro m e h
      by_cases c : Kzk1.after n t m s ∈ way n t s m
      · obtain ⟨w, hw, e2⟩ := mem_way.mp c
        exact ⟨m, w, hs, h, hw, e2.symm⟩
      · refine ih (m + 1) (by omega) fun i j hij hj => ?_
        by_cases z : j < m
        · exact h i j hij z
        · have z2 : j = m := by omega
          subst z2
          exact fun e3 => c (mem_way.mpr ⟨i, hij, e3⟩)
  exact key (2 ^ n + 1) 0 (by omega) fun i j _ hj => absurd hj (Nat.not_lt_zero j)
/-! What is due of round and rounds. -/
theorem due_round (n s : Nat) (t : List Nat) : PyKzk1.round_of n s (cast t) = if Kzk1.good n s t = false then [-22] else ((Kzk1.tail n t s : Nat) : Int) :: (((Kzk1.round n t s).length : Nat) : Int) :: cast (Kzk1.round n t s) := by
  have e : PyKzk1.round_of n s (cast t) = (Kzk1.answer (.round n s (Kzk1Neutral.natsOf (cast t)))).value :: Kzk1Neutral.ints (Kzk1.answer (.round n s (Kzk1Neutral.natsOf (cast t)))).nums := rfl
  rw [e, show Kzk1Neutral.natsOf (cast t) = t from nats_of t]
  show (if Kzk1.good n s t = false then Kzk1.say (-22) else (⟨((Kzk1.tail n t s : Nat) : Int), (Kzk1.round n t s).length :: Kzk1.round n t s⟩ : Kzk1.Ans)).value :: Kzk1Neutral.ints (if Kzk1.good n s t = false then Kzk1.say (-22) else (⟨((Kzk1.tail n t s : Nat) : Int), (Kzk1.round n t s).length :: Kzk1.round n t s⟩ : Kzk1.Ans)).nums = _
  split <;> rfl
theorem due_rounds (n : Nat) (t : List Nat) : PyKzk1.rounds n (cast t) = if Kzk1.okTowers n t = false then [-22] else (((Kzk1.rounds n t).length : Nat) : Int) :: cast ((Kzk1.rounds n t).flatMap fun s => [s, Kzk1.long n t s]) := by
  have e : PyKzk1.rounds n (cast t) = (Kzk1.answer (.rounds n (Kzk1Neutral.natsOf (cast t)))).value :: Kzk1Neutral.ints (Kzk1.answer (.rounds n (Kzk1Neutral.natsOf (cast t)))).nums := rfl
  rw [e, show Kzk1Neutral.natsOf (cast t) = t from nats_of t]
  show (if Kzk1.okTowers n t = false then Kzk1.say (-22) else (⟨(((Kzk1.rounds n t).length : Nat) : Int), (Kzk1.rounds n t).flatMap fun s => [s, Kzk1.long n t s]⟩ : Kzk1.Ans)).value :: Kzk1Neutral.ints (if Kzk1.okTowers n t = false then Kzk1.say (-22) else (⟨(((Kzk1.rounds n t).length : Nat) : Int), (Kzk1.rounds n t).flatMap fun s => [s, Kzk1.long n t s]⟩ : Kzk1.Ans)).nums = _
  split <;> rfl
end My
namespace My
/-! Which states a round has; its least. -/
theorem onRound_of {n : Nat} {t : List Nat} {x q : Nat} (hx : x < 2 ^ n) (h : Kzk1.after n t (q + 1) x = x) : Kzk1.onRound n t x = true := by
  obtain ⟨m, w, W⟩ := has_way (t := t) hx
  by_cases z : w = 0
  · have o := W.on
    rw [z] at o
    exact o
  · have g := W.again (k := 0) (q := q + 1) (by rw [Nat.zero_add]; exact h) w
    have big : w ≤ 0 + (q + 1) * w := by
      have : w ≤ (q + 1) * w := Nat.le_mul_of_pos_left w (Nat.succ_pos q)
      omega
    obtain ⟨j, h1, h2, h3⟩ := W.far _ big
    rw [g] at h3
    exact absurd h3 (W.apart 0 j (by omega) h2)
theorem mem_round {n : Nat} {t : List Nat} {s x : Nat} (hs : s < 2 ^ n) : x ∈ Kzk1.round n t s ↔ Kzk1.onRound n t x = true ∧ ∃ i, Kzk1.after n t i s = x := by
  obtain ⟨m, w, W⟩ := has_way (t := t) hs
  have hw := W.hw
  rw [W.round, List.mem_map]
  constructor
  · rintro ⟨k, hk, rfl⟩
    have hk' := List.mem_range.mp hk
    refine ⟨onRound_of (after_lt hs _) (q := m - w - 1) ?_, w + k, rfl⟩
    rw [← after_add, show w + k + (m - w - 1 + 1) = m + k by omega]
    exact after_same W.back k
  · rintro ⟨o, i, rfl⟩
    by_cases z : i < w
    · rw [W.off z] at o
      cases o
    · obtain ⟨j, h1, h2, h3⟩ := W.far i (by omega)
      refine ⟨j - w, List.mem_range.mpr (by omega), ?_⟩
      rw [show w + (j - w) = j by omega]
      exact h3.symm
theorem turns {n : Nat} {t : List Nat} {x q : Nat} (h : Kzk1.after n t (q + 1) x = x) : ∀ l : Nat, Kzk1.after n t ((q + 1) * l) x = x
  | 0 => rfl
  | l + 1 => by rw [Nat.mul_succ, after_add, turns h l, h]
theorem mem_round_after {n : Nat} {t : List Nat} {s x : Nat} (hs : s < 2 ^ n) (k : Nat) : x ∈ Kzk1.round n t (Kzk1.after n t k s) ↔ x ∈ Kzk1.round n t s := by
  rw [mem_round (after_lt hs k), mem_round hs]
  constructor
  · rintro ⟨o, i, e⟩
    exact ⟨o, k + i, by rw [after_add]; exact e⟩
  · rintro ⟨o, i, e⟩
    refine ⟨o, ?_⟩
    obtain ⟨q, _, h⟩ := (onRound_iff n t x).mp o
    have g := turns h k
    have big : k ≤ (q + 1) * k := Nat.le_mul_of_pos_left k (Nat.succ_pos q)
    refine ⟨i + (q + 1) * k - k, ?_⟩
    rw [← after_add, show k + (i + (q + 1) * k - k) = i + (q + 1) * k by omega, after_add, e]
    exact g
theorem foldl_min : ∀ (l : List Nat) (a : Nat), (l.foldl min a ∈ l ∨ l.foldl min a = a) ∧ l.foldl min a ≤ a ∧ ∀ x ∈ l, l.foldl min a ≤ x
  | [], a => ⟨.inr rfl, Nat.le_refl _, fun x hx => by cases hx⟩
  | y :: r, a => by
    obtain ⟨h1, h2, h3⟩ := foldl_min r (min a y)
    rw [List.foldl_cons]
    refine ⟨?_, Nat.le_trans h2 (Nat.min_le_left _ _), fun x hx => ?_⟩
    · rcases h1 with m | e
      · exact .inl (List.mem_cons_of_mem _ m)
      · rw [e]
        by_cases z : a ≤ y
        · exact .inr (Nat.min_eq_left z)
        · rw [Nat.min_eq_right (by omega)]
          exact .inl (List.mem_cons_self ..)
    · rcases List.mem_cons.mp hx with e | m
      · rw [e]
        exact Nat.le_trans h2 (Nat.min_le_right _ _)
      · exact h3 x m
theorem least_mem {l : List Nat} (h : l ≠ []) : Kzk1.least l ∈ l := by
  cases l with
  | nil => exact absurd rfl h
  | cons y r =>
    rcases (foldl_min (y :: r) y).1 with m | e
    · exact m
    · show List.foldl min y (y :: r) ∈ y :: r
      rw [e]
      exact List.mem_cons_self ..
theorem least_le {l : List Nat} {x : Nat} (h : x ∈ l) : Kzk1.least l ≤ x := (foldl_min l (l.headD 0)).2.2 x h
theorem least_is {l : List Nat} {x : Nat} (h : x ∈ l) (hx : ∀ y ∈ l, x ≤ y) : Kzk1.least l = x := by
  have a := least_le h
  have b := hx _ (least_mem (List.ne_nil_of_mem h))
  omega
theorem least_alike {l r : List Nat} (hl : l ≠ []) (h : ∀ x, x ∈ l ↔ x ∈ r) : Kzk1.least l = Kzk1.least r := by
  have m := least_mem hl
  exact (least_is ((h _).mp m) fun y hy => least_le ((h y).mpr hy)).symm
theorem round_some {n : Nat} {t : List Nat} {s : Nat} (hs : s < 2 ^ n) : Kzk1.round n t s ≠ [] := by
  obtain ⟨m, w, W⟩ := has_way (t := t) hs
  have hw := W.hw
  rw [W.round]
  intro z
  have e := congrArg List.length z
  rw [List.length_map, List.length_range] at e
  have e2 : m - w = 0 := e
  omega
theorem least_after {n : Nat} {t : List Nat} {s : Nat} (hs : s < 2 ^ n) (k : Nat) : Kzk1.least (Kzk1.round n t (Kzk1.after n t k s)) = Kzk1.least (Kzk1.round n t s) :=
  least_alike (round_some (after_lt hs k)) fun _ => mem_round_after hs k
/-- a state on a round: its way begins there -/
theorem Way.zero {n : Nat} {t : List Nat} {s m w : Nat} (W : Way n t s m w) (o : Kzk1.onRound n t s = true) : w = 0 := by
  by_cases z : w = 0
  · exact z
  · have h := W.off (k := 0) (by omega)
    rw [after_zero, o] at h
    cases h
theorem Way.long_zero {n : Nat} {t : List Nat} {s m : Nat} (W : Way n t s m 0) : Kzk1.long n t s = m := W.long
theorem Way.round_len {n : Nat} {t : List Nat} {s m w : Nat} (W : Way n t s m w) : (Kzk1.round n t s).length = m - w := by
  rw [W.round, List.length_map, List.length_range]
theorem round_lt {n : Nat} {t : List Nat} {s x : Nat} (hs : s < 2 ^ n) (h : x ∈ Kzk1.round n t s) : x < 2 ^ n := by
  obtain ⟨_, i, rfl⟩ := (mem_round hs).mp h
  exact after_lt hs i
/-- the round to which one on it comes has one with the same states, whichever it is begun with -/
theorem round_of_mem {n : Nat} {t : List Nat} {s x : Nat} (hs : s < 2 ^ n) (h : x ∈ Kzk1.round n t s) (y : Nat) : y ∈ Kzk1.round n t x ↔ y ∈ Kzk1.round n t s := by
  obtain ⟨_, i, rfl⟩ := (mem_round hs).mp h
  exact mem_round_after hs i
theorem self_mem {n : Nat} {t : List Nat} {s : Nat} (hs : s < 2 ^ n) (o : Kzk1.onRound n t s = true) : s ∈ Kzk1.round n t s := (mem_round hs).mpr ⟨o, 0, rfl⟩
end My
namespace My
/-! What is due of before, gardens, basin. -/
theorem due_before (n s : Nat) (t : List Nat) : PyKzk1.before n s (cast t) = if Kzk1.good n s t = false then [-22] else (((Kzk1.before n t s).length : Nat) : Int) :: cast (Kzk1.before n t s) := by
  have e : PyKzk1.before n s (cast t) = (Kzk1.answer (.before n s (Kzk1Neutral.natsOf (cast t)))).value :: Kzk1Neutral.ints (Kzk1.answer (.before n s (Kzk1Neutral.natsOf (cast t)))).nums := rfl
  rw [e, show Kzk1Neutral.natsOf (cast t) = t from nats_of t]
  show (if Kzk1.good n s t = false then Kzk1.say (-22) else Kzk1.told (Kzk1.before n t s)).value :: Kzk1Neutral.ints (if Kzk1.good n s t = false then Kzk1.say (-22) else Kzk1.told (Kzk1.before n t s)).nums = _
  split <;> rfl
theorem due_gardens (n : Nat) (t : List Nat) : PyKzk1.gardens n (cast t) = if Kzk1.okTowers n t = false then [-22] else (((Kzk1.gardens n t).length : Nat) : Int) :: cast (Kzk1.gardens n t) := by
  have e : PyKzk1.gardens n (cast t) = (Kzk1.answer (.gardens n (Kzk1Neutral.natsOf (cast t)))).value :: Kzk1Neutral.ints (Kzk1.answer (.gardens n (Kzk1Neutral.natsOf (cast t)))).nums := rfl
  rw [e, show Kzk1Neutral.natsOf (cast t) = t from nats_of t]
  show (if Kzk1.okTowers n t = false then Kzk1.say (-22) else Kzk1.told (Kzk1.gardens n t)).value :: Kzk1Neutral.ints (if Kzk1.okTowers n t = false then Kzk1.say (-22) else Kzk1.told (Kzk1.gardens n t)).nums = _
  split <;> rfl
theorem due_basin (n s : Nat) (t : List Nat) : PyKzk1.basin n s (cast t) = if Kzk1.good n s t = false then [-22] else [((Kzk1.basin n t s : Nat) : Int)] := by
  have e : PyKzk1.basin n s (cast t) = (Kzk1.answer (.basin n s (Kzk1Neutral.natsOf (cast t)))).value :: Kzk1Neutral.ints (Kzk1.answer (.basin n s (Kzk1Neutral.natsOf (cast t)))).nums := rfl
  rw [e, show Kzk1Neutral.natsOf (cast t) = t from nats_of t]
  show (if Kzk1.good n s t = false then Kzk1.say (-22) else Kzk1.say (Kzk1.basin n t s : Nat)).value :: Kzk1Neutral.ints (if Kzk1.good n s t = false then Kzk1.say (-22) else Kzk1.say (Kzk1.basin n t s : Nat)).nums = _
  split <;> rfl
/-- a filter, state by state -/
theorem filter_more (p : Nat → Bool) (i : Nat) : (List.range (i + 1)).filter p = (List.range i).filter p ++ (if p i = true then [i] else []) := by
  rw [List.range_succ, List.filter_append]
  congr 1
  rw [List.filter_cons]
  split <;> rfl
theorem cast_append (a b : List Nat) : cast (a ++ b) = cast a ++ cast b := List.map_append
theorem cast_len (a : List Nat) : (cast a).length = a.length := List.length_map ..
/-- a garden is what no state's next is -/
theorem garden_iff (n : Nat) (t : List Nat) (s : Nat) : (Kzk1.before n t s).isEmpty = true ↔ ∀ x, x < 2 ^ n → Kzk1.next n t x ≠ s := by
  unfold Kzk1.before Kzk1.states
  rw [List.isEmpty_iff, List.filter_eq_nil_iff]
  constructor
  · intro h x hx e
    exact h x (List.mem_range.mpr hx) (beq_iff_eq.mpr e)
  · intro h x hx e
    exact h x (List.mem_range.mp hx) (eq_of_beq e)
/-- rounds that have one state alike are the same, as far as their least goes -/
theorem same_round {n : Nat} {t : List Nat} {x s y : Nat} (hx : x < 2 ^ n) (hs : s < 2 ^ n) (h1 : y ∈ Kzk1.round n t x) (h2 : y ∈ Kzk1.round n t s) : Kzk1.least (Kzk1.round n t x) = Kzk1.least (Kzk1.round n t s) :=
  least_alike (round_some hx) fun z => (round_of_mem hx h1 z).symm.trans (round_of_mem hs h2 z)
theorem meet {n : Nat} {t : List Nat} {x s : Nat} (hx : x < 2 ^ n) (hs : s < 2 ^ n) (e : Kzk1.least (Kzk1.round n t x) = Kzk1.least (Kzk1.round n t s)) : ∀ z, z ∈ Kzk1.round n t x ↔ z ∈ Kzk1.round n t s := fun z => by
  have m1 := least_mem (round_some (t := t) hx)
  have m2 := least_mem (round_some (t := t) hs)
  rw [e] at m1
  exact (round_of_mem hx m1 z).symm.trans (round_of_mem hs m2 z)
/-- far enough on a state is on its round -/
theorem mem_far {n : Nat} {t : List Nat} {s m w : Nat} (W : Way n t s m w) {k : Nat} (hk : w ≤ k) : Kzk1.after n t k s ∈ Kzk1.round n t s := by
  obtain ⟨j, h1, h2, h3⟩ := W.far k hk
  rw [W.round, h3]
  exact List.mem_map.mpr ⟨j - w, List.mem_range.mpr (by omega), by rw [show w + (j - w) = j by omega]⟩
/-- one state of the round of s tells whether another comes to it -/
theorem comes_iff {n : Nat} {t : List Nat} {x s y : Nat} (hx : x < 2 ^ n) (hs : s < 2 ^ n) (hy : y ∈ Kzk1.round n t x) : Kzk1.least (Kzk1.round n t x) = Kzk1.least (Kzk1.round n t s) ↔ y ∈ Kzk1.round n t s :=
  ⟨fun e => (meet hx hs e y).mp hy, fun h => same_round hx hs hy h⟩
end My
namespace My
open PySem PySem.Spec PyProof.Rows L2
open PySem.W (Codec)
/-! ### The heap, loops -/
theorem same_new {H : Hp} {p : Addr} {o : HO} (h : H p = none) : Same H (upd H p o) := fun b x e => by
  rw [upd_ne (ne_of_none e h)]
  exact e
/-- a walk over enumerate of a list that stands still -/
theorem for_enum {K : PySem.W.Frag} {a : Addr} {xs : List V} {g : TG} {tb : TS} {D : Ends} {σ : L2.St} {H : Hp} (Pv : Nat → L2.St → Hp → Prop) (h0 : Pv 0 σ H) (hl : ∀ i σ H, i ≤ xs.length → Pv i σ H → SqL K H a xs)
    (hs : ∀ (i : Nat) (x : V) (T : Addr) (σ : L2.St) (H : Hp), xs[i]? = some x → Pv i σ H → H T = none → g (.ref T) σ (upd H T (.tup [.int (i : Nat), x])) fun σ2 H2 => tb { D with nx := Pv (i + 1), ct := Pv (i + 1), bk := D.nx } σ2 H2) (hd : ∀ σ H, Pv xs.length σ H → D.nx σ H) :
    ∃ W : Nat → Nat → L2.St → Hp → Prop, (∃ m, W 0 m σ H) ∧ ∀ i m σ H, W i m σ H →
      ((Ite K a).stop i H ∧ D.nx σ H) ∨ ((Ite K a).go i H ∧ ∃ N : L2.St → Hp → Prop, (∀ σ' H', N σ' H' → ∃ m', m' < m ∧ W (i + 1) m' σ' H') ∧ ∀ x H', (Ite K a).yld i H x H' → g x σ H' fun σ2 H2 => tb { D with nx := N, ct := N, bk := D.nx } σ2 H2) := by
  refine ⟨fun i m σ H => m = xs.length - i ∧ i ≤ xs.length ∧ Pv i σ H, ⟨xs.length, by simp, Nat.zero_le _, h0⟩, ?_⟩
  rintro i m σ H ⟨rfl, hi, p⟩
  have q := hl i σ H hi p
  by_cases hlt : i < xs.length
  · refine .inr ⟨⟨xs, xs[i], q, by simp [hlt]⟩, Pv (i + 1), fun σ' H' p' => ⟨xs.length - (i + 1), by omega, rfl, hlt, p'⟩, fun x H' y => ?_⟩
    obtain ⟨T, z, rfl, nT, rfl, f⟩ := y
    exact hs i z T σ H (f xs q) p nT
  · have e : i = xs.length := by omega
    subst e
    exact .inl ⟨⟨xs, q, Nat.le_refl _⟩, hd σ H p⟩
/-! ### Numbers as the program reckons them -/
def tV (t : List Nat) : List V := (cast t).map V.int
theorem tV_len (t : List Nat) : (tV t).length = t.length := by
  unfold tV cast
  rw [List.length_map, List.length_map]
theorem tV_at {t : List Nat} {i : Nat} {y : V} (h : (tV t)[i]? = some y) : ∃ r : Nat, t[i]? = some r ∧ y = .int (r : Nat) := by
  unfold tV cast at h
  rw [List.getElem?_map, List.getElem?_map] at h
  cases e : t[i]? with
  | none =>
    rw [e] at h
    cases h
  | some r =>
    rw [e] at h
    exact ⟨r, rfl, (Option.some.inj h).symm⟩
theorem pow_cast (n : Nat) : (2 : Int) ^ n = ((2 ^ n : Nat) : Int) := by
  rw [Int.natCast_pow]
  rfl
theorem shl_one (n : Nat) : (1 : Int) * 2 ^ ((n : Nat) : Int).toNat = ((2 ^ n : Nat) : Int) := by
  rw [Int.toNat_natCast, Int.one_mul, pow_cast]
theorem flag_is (r s : Nat) : Builtin.bitAnd ((r : Int) / 2 ^ ((s : Nat) : Int).toNat) 1 = ((r / 2 ^ s % 2 : Nat) : Int) := by
  rw [bitAnd_m1, Int.toNat_natCast, pow_cast]
  rfl
theorem behind_is {t : List Nat} {i r : Nat} (s : Nat) (h : t[i]? = some r) :
    Builtin.bitOr ((Kzk1.next i t s : Nat) : Int) (((r / 2 ^ s % 2 : Nat) : Int) * 2 ^ ((i : Nat) : Int).toNat) = ((Kzk1.next (i + 1) t s : Nat) : Int) := by
  have hlt : ((Kzk1.next i t s : Nat) : Int) < 2 ^ i := by
    rw [pow_cast]
    exact Int.ofNat_lt.mpr (next_lt t s i)
  rw [Int.toNat_natCast, Bits.bitOr_join (Int.natCast_nonneg _) hlt (Int.natCast_nonneg _), next_turn s h, pow_cast, ← Int.natCast_mul, ← Int.natCast_add]
theorem small_flag (r s i : Nat) (hi : i ≤ 1000) : CPow ((r / 2 ^ s % 2 : Nat) : Int) ((i : Nat) : Int) := by
  refine ⟨by omega, by omega, ?_⟩
  rw [Int.natAbs_natCast]
  exact Nat.lt_of_lt_of_le (Nat.mod_lt _ (by decide)) (by decide)
theorem small_one (n : Nat) (hn : n ≤ 1000000) : CPow 1 ((n : Nat) : Int) := ⟨by omega, by omega, by decide⟩
/-! ### The text -/
def top (i : Nat) : Stmt := PySem.Challenge.pw_towerflags_s07_basin.main.body.getD i (.Pass ⟨0, 0, 0, 0⟩)
abbrev sFit : Stmt := top 3
abbrev sBehind : Stmt := top 5
theorem scFit : FnScope ["n", "t", "too_large", "rule"] ["n", "t"] (defScope sFit) := ⟨rfl, rfl, rfl, by decide +kernel, rfl, by decide +kernel, by decide +kernel⟩
theorem scBehind : FnScope ["s", "t", "behind", "j", "rule", "flag"] ["s", "t"] (defScope sBehind) := ⟨rfl, rfl, rfl, by decide +kernel, rfl, by decide +kernel, by decide +kernel⟩
/-! ### The promises -/
def spFit (K : PySem.W.Frag) : Sp := fun vs H Q _ => ∃ (a : Addr) (n : Nat) (t : List Nat), vs = [.int (n : Nat), .ref a] ∧ SqL K H a (tV t) ∧ Q (.bl (Kzk1.okTowers n t)) H
def spBehind (K : PySem.W.Frag) : Sp := fun vs H Q _ => ∃ (a : Addr) (s : Nat) (t : List Nat), vs = [.int (s : Nat), .ref a] ∧ SqL K H a (tV t) ∧ t.length ≤ 1000 ∧
  ∀ H', Same H H' → Q (.int ((Kzk1.next t.length t s : Nat) : Int)) H'
section
variable {P : Program} {w : World} {K : PySem.W.Frag} {mg : Str → Option Value} {base : Heap}
/-! ### rules_fit -/
theorem ok_fit {f : Addr} {fd : FuncData} (F : Fun K "rules_fit" "rules_fit" sFit f fd) {u4 : Tok} (g4 : mg "MOST_TOWERS" = some (.int 4 u4)) (ml : mg "len" = none) : FnOk P w K mg base CX0 1 f fd ["n", "t"] (spFit K) := by
  refine F.ok scFit (fun vs H Q E h => ?_) (fun cdv A outer s H vs Q E hr h => ?_)
  · obtain ⟨a, n, t, rfl, _⟩ := h
    rfl
  · obtain ⟨a, n, t, rfl, hS, q⟩ := h
    refine ⟨_, pss_cons (ps_if (PW.pt (pw_or (pt_cmpR op_lt (pv 0) pe_int (nomark _)) (pw_or (pt_cmpR op_gt (pv 0) (pe_glob (v := .int 4) rfl g4 ⟨_, rfl⟩) (nomark _))
          (pw_or1 (pt_cmpR op_ne (pe_callB call_len_seq (by rfl) ml PySem.boot_len (pa_cons (pv 1) pa_nil)) (pv 0) (nomark _)))))) (pss_one (ps_ret pe_bl)) pss_nil)
      (pss_cons (ps_set (i := 2) scFit.nd rfl (.inl rfl) (pe_op op_shl pe_int (pe_op op_shl pe_int (pv 0))))
      (pss_cons (ps_for PassesOwn.never rfl (pi_list (pv 1)) (pg_name (i := 3) scFit.nd rfl (.inl rfl))
        (pss_one (ps_if (pt_cmpR op_ge (pv 3) (pv 2) (nomark _)) (pss_one (ps_ret pe_bl)) pss_nil)))
      (pss_one (ps_ret pe_bl)))), ?_⟩
    -- n < 1
    refine ⟨_, rfl, _, _, rfl, rfl, _, rfl, ite2 (fun e => iteT ?_) (fun e1 => ?_)⟩
    · have c : (n : Int) < 1 := of_decide_eq_true e
      rw [ok_false (n := n) (t := t) (by omega)] at q
      exact q
    -- n > MOST_TOWERS
    refine ⟨_, rfl, _, _, rfl, rfl, _, rfl, ite2 (fun e => iteT ?_) (fun e2 => ?_)⟩
    · have c : (4 : Int) < n := of_decide_eq_true e
      rw [ok_false (n := n) (t := t) (by omega)] at q
      exact q
    -- len(t) != n
    refine ⟨_, rfl, a, tV t, rfl, .inl hS, _, rfl, rfl, _, rfl, ite2 (fun e => ?_) (fun e3 => ?_)⟩
    · have c : t.length ≠ n := fun z => by
        rw [tV_len, z, decide_eq_true rfl] at e
        cases e
      rw [ok_false (n := n) (t := t) (fun z => c z.2.2.1)] at q
      exact q
    have c1 : ¬ (n : Int) < 1 := fun z => e1 (decide_eq_true z)
    have c2 : ¬ (4 : Int) < n := fun z => e2 (decide_eq_true z)
    have c3 : t.length = n := by
      by_cases z : t.length = n
      · exact z
      · refine absurd ?_ e3
        have z2 : ¬ V.int ((tV t).length : Int) = V.int (n : Int) := fun y => by
          rw [tV_len] at y
          exact z (Int.ofNat.inj (V.int.inj y))
        rw [decide_eq_false z2]
        rfl
    -- too_large = 1 << (1 << n)
    refine ⟨_, rfl, 1, _, rfl, rfl, small_one n (by omega), ?_⟩
    dsimp only
    rw [shl_one]
    have hp : 2 ^ n ≤ 1000000 := Nat.le_trans (Nat.pow_le_pow_right (by decide) (show n ≤ 4 by omega)) (by decide)
    refine ⟨1, _, rfl, rfl, small_one (2 ^ n) hp, ?_⟩
    dsimp only
    rw [shl_one]
    -- for rule in t
    refine ⟨_, rfl, a, rfl, ⟨_, hS⟩, for_list (K := K) (a := a) (xs := tV t) (fun i σ H' => ∃ v : Option V, σ = [some (.int (n : Nat)), some (.ref a), some (.int ((2 ^ 2 ^ n : Nat) : Int)), v] ∧ H' = H ∧ ∀ (j r : Nat), j < i → t[j]? = some r → r < 2 ^ 2 ^ n)
      ⟨none, rfl, rfl, fun j r hj => absurd hj (Nat.not_lt_zero j)⟩ (fun i σ H' _ ⟨_, _, e, _⟩ => by rw [e]; exact hS) ?_ ?_⟩
    · rintro i y σ H' hi ⟨v, rfl, rfl, hA⟩
      obtain ⟨r, hr', rfl⟩ := tV_at hi
      refine ⟨_, rfl, _, rfl, _, _, rfl, rfl, _, rfl, ite2 (fun e => ?_) (fun e => ?_)⟩
      · have c : ((2 ^ 2 ^ n : Nat) : Int) ≤ r := of_decide_eq_true e
        have c' : 2 ^ 2 ^ n ≤ r := Int.ofNat_le.mp c
        rw [ok_false (n := n) (t := t) (fun z => absurd (z.2.2.2 r (List.mem_of_getElem? hr')) (Nat.not_lt.mpr c'))] at q
        exact q
      · have c : ¬ ((2 ^ 2 ^ n : Nat) : Int) ≤ r := fun z => e (decide_eq_true z)
        have c' : r < 2 ^ 2 ^ n := Nat.not_le.mp fun z => c (Int.ofNat_le.mpr z)
        refine ⟨some (.int (r : Nat)), rfl, rfl, fun j r' hj h' => ?_⟩
        by_cases z : j = i
        · rw [z, hr'] at h'
          rw [← Option.some.inj h']
          exact c'
        · exact hA j r' (by omega) h'
    · rintro σ H' ⟨v, rfl, rfl, hA⟩
      rw [tV_len] at hA
      have ok : Kzk1.okTowers n t = true := (ok_iff n t).mpr ⟨by omega, by omega, c3, fun r hr' => by
        obtain ⟨j, hj⟩ := List.mem_iff_getElem?.mp hr'
        have hlt : j < t.length := by
          by_cases z : j < t.length
          · exact z
          · rw [List.getElem?_eq_none (by omega)] at hj
            cases hj
        exact hA j r hlt hj⟩
      rw [ok] at q
      exact q
/-! ### state_behind -/
theorem ok_behind {f : Addr} {fd : FuncData} (F : Fun K "state_behind" "state_behind" sBehind f fd) (me : mg "enumerate" = none) : FnOk P w K mg base CX0 1 f fd ["s", "t"] (spBehind K) := by
  refine F.ok scBehind (fun vs H Q E h => ?_) (fun cdv A outer sh H vs Q E hr h => ?_)
  · obtain ⟨a, s, t, rfl, _⟩ := h
    rfl
  · obtain ⟨a, s, t, rfl, hS, hl, q⟩ := h
    refine ⟨_, pss_cons (ps_set (i := 2) scBehind.nd rfl (.inl rfl) pe_int)
      (pss_cons (ps_for PassesOwn.never rfl (pi_enum (by rfl) me (pa_cons (pv 1) pa_nil))
          (pg_tup rfl (pgs_cons (pg_name (i := 3) scBehind.nd rfl (.inl rfl)) (pgs_cons (pg_name (i := 4) scBehind.nd rfl (.inl rfl)) pgs_nil)))
        (pss_cons (ps_set (i := 5) scBehind.nd rfl (.inl rfl) (pe_op op_and (pe_op op_shr (pv 4) (pv 0)) pe_int))
        (pss_one (ps_set (i := 2) scBehind.nd rfl (.inl rfl) (pe_op op_or (pv 2) (pe_op op_shl (pv 5) (pv 3)))))))
      (pss_one (ps_ret (pv 2)))), ?_⟩
    refine ⟨_, rfl, a, tV t, rfl, hS, for_enum (K := K) (a := a) (xs := tV t) (fun i σ H' => ∃ v3 v4 v5 : Option V, σ = [some (.int (s : Nat)), some (.ref a), some (.int ((Kzk1.next i t s : Nat) : Int)), v3, v4, v5] ∧ Same H H')
      ⟨none, none, none, rfl, Same.refl H⟩ (fun i σ H' _ ⟨_, _, _, _, sm⟩ => sm.seq hS) ?_ ?_⟩
    · rintro i y T σ H' hi ⟨v3, v4, v5, rfl, sm⟩ nT
      obtain ⟨r, hr', rfl⟩ := tV_at hi
      have hil : i < t.length := by
        by_cases z : i < t.length
        · exact z
        · rw [List.getElem?_eq_none (by omega)] at hr'
          cases hr'
      -- j, rule = the pair
      refine ⟨T, _, rfl, SqT.of upd_same, rfl, _, _, rfl, _, _, rfl, rfl, ?_⟩
      -- flag = (rule >> s) & 1
      refine ⟨_, rfl, _, rfl, _, _, rfl, rfl, (by omega), _, _, rfl, rfl, ?_⟩
      dsimp only
      rw [flag_is]
      -- behind = behind | (flag << j)
      refine ⟨_, rfl, _, rfl, _, rfl, _, _, rfl, rfl, small_flag r s i (by omega), _, _, rfl, rfl, ?_⟩
      dsimp only
      rw [behind_is s hr']
      exact ⟨_, _, _, rfl, sm.trans (same_new nT)⟩
    · rintro σ H' ⟨v3, v4, v5, rfl, sm⟩
      rw [tV_len]
      exact ⟨_, rfl, q H' sm⟩
end
end My
namespace My
open PySem PySem.Spec PyProof.Rows L2
open PySem.W (Codec)
abbrev sState : Stmt := top 4
theorem scState : FnScope ["n", "s", "t"] ["n", "s", "t"] (defScope sState) := ⟨rfl, rfl, rfl, by decide +kernel, rfl, by decide +kernel, by decide +kernel⟩
def spState (K : PySem.W.Frag) : Sp := fun vs H Q _ => ∃ (a : Addr) (n s : Nat) (t : List Nat), vs = [.int (n : Nat), .int (s : Nat), .ref a] ∧ SqL K H a (tV t) ∧ Q (.bl (Kzk1.good n s t)) H
theorem good_true {n s : Nat} {t : List Nat} (h : Kzk1.good n s t = true) : Kzk1.okTowers n t = true ∧ s < 2 ^ n := by
  rw [good_eq, Bool.and_eq_true, decide_eq_true_iff] at h
  exact h
section
variable {P : Program} {w : World} {K : PySem.W.Frag} {mg : Str → Option Value} {base : Heap}
/-! ### state_fits -/
theorem ok_state {f f1 : Addr} {fd fd1 : FuncData} (F : Fun K "state_fits" "state_fits" sState f fd) (F1 : Fun K "rules_fit" "rules_fit" sFit f1 fd1) (b1 : Binds K fd1 ["n", "t"] []) (g1 : mg "rules_fit" = some (.ref f1))
    {u4 : Tok} (g4 : mg "MOST_TOWERS" = some (.int 4 u4)) (ml : mg "len" = none) : FnOk P w K mg base CX0 2 f fd ["n", "s", "t"] (spState K) := by
  have G1 : FnOk P w K mg base CX0 1 f1 fd1 ["n", "t"] (spFit K) := ok_fit F1 g4 ml
  refine F.ok scState (fun vs H Q E h => ?_) (fun cdv A outer sh H vs Q E hr h => ?_)
  · obtain ⟨a, n, s, t, rfl, _⟩ := h
    rfl
  · obtain ⟨a, n, s, t, rfl, hS, q⟩ := h
    refine ⟨_, pss_one (ps_ret (pe_and (pe_call G1 hr (by rfl) g1 F1.kp b1 .nil pass0 (pa_cons (pv 0) (pa_cons (pv 2) pa_nil)))
      (pe_one (pe_cmpR op_lt (pv 1) (pe_op op_shl pe_int (pv 0)) (nomark _))))), ?_⟩
    rw [good_eq] at q
    refine ⟨_, rfl, _, rfl, a, n, t, rfl, hS, _, rfl, ?_⟩
    cases c : Kzk1.okTowers n t with
    | false =>
      rw [c, Bool.false_and] at q
      exact iteF q
    | true =>
      rw [c, Bool.true_and] at q
      have h4 := ((ok_iff n t).mp c).2.1
      refine iteT ⟨_, rfl, _, rfl, 1, _, rfl, rfl, small_one n (by omega), ?_⟩
      dsimp only
      rw [shl_one]
      refine ⟨_, _, rfl, rfl, ?_⟩
      have e : decide (((s : Nat) : Int) < ((2 ^ n : Nat) : Int)) = decide (s < 2 ^ n) := by
        rw [Bool.eq_iff_iff, decide_eq_true_iff, decide_eq_true_iff]
        exact Int.ofNat_lt
      show Q (V.bl (decide (((s : Nat) : Int) < ((2 ^ n : Nat) : Int)))) H
      rw [e]
      exact q
end
end My
namespace My
open PySem PySem.Spec PyProof.Rows L2
open PySem.W (Codec)
/-! ### Lists of numbers -/
theorem tV_flat (l : List Nat) : (tV l).all flatV = true := by
  rw [List.all_eq_true]
  intro x hx
  unfold tV at hx
  obtain ⟨i, _, rfl⟩ := List.mem_map.mp hx
  rfl
theorem tV_append (a b : List Nat) : tV (a ++ b) = tV a ++ tV b := by
  unfold tV cast
  rw [List.map_append, List.map_append]
theorem eq_int (x y : Nat) : eqV (.int (x : Nat)) (.int (y : Nat)) = decide (x = y) := by
  show (((x : Nat) : Int) == ((y : Nat) : Int)) = decide (x = y)
  rw [Bool.eq_iff_iff, beq_iff_eq, decide_eq_true_iff]
  exact Int.ofNat_inj
theorem inV_tV (x : Nat) (l : List Nat) : inV (.int (x : Nat)) (tV l) = decide (x ∈ l) := by
  rw [Bool.eq_iff_iff, decide_eq_true_iff]
  unfold inV tV cast
  rw [List.any_eq_true]
  constructor
  · rintro ⟨v, hv, e⟩
    obtain ⟨i, hi, rfl⟩ := List.mem_map.mp hv
    obtain ⟨y, hy, rfl⟩ := List.mem_map.mp hi
    rw [eq_int, decide_eq_true_iff] at e
    rw [← e]
    exact hy
  · intro h
    exact ⟨_, List.mem_map_of_mem (List.mem_map_of_mem h), by rw [eq_int, decide_eq_true_iff]⟩
theorem tV_get {l : List Nat} {i x : Nat} (h : l[i]? = some x) : (tV l)[i]? = some (.int (x : Nat)) := by
  unfold tV cast
  rw [List.getElem?_map, List.getElem?_map, h]
  rfl
theorem tV_drop (l : List Nat) (w : Nat) (hw : w ≤ l.length) : cutV (tV l) (some (w : Nat)) none = tV (l.drop w) := by
  unfold cutV
  rw [HT.sIx_nat, HT.sIx_none, tV_len, Nat.min_eq_left hw]
  unfold tV cast
  rw [← List.map_drop, ← List.map_drop, List.take_of_length_le]
  rw [List.length_map, List.length_map, List.length_drop]
  exact Nat.le_refl _
theorem pow_small {n : Nat} (h : n ≤ 4) : 2 ^ n ≤ 16 := Nat.le_trans (Nat.pow_le_pow_right (by decide) h) (by decide)
theorem same_put {H H' : Hp} {p : Addr} {o : HO} (hp : H p = none) (sm : Same H H') : Same H (upd H' p o) := fun b x e => by
  rw [upd_ne (ne_of_none e hp)]
  exact sm b x e
/-! ### len and in within a comprehension: told of the written part itself, for no letter of the block may stand in a test's reading -/
def lenOf (K : PySem.W.Frag) (vs : List V) (H : Hp) (Q : VK) : Prop := ∃ (p : Addr) (l : List V), vs = [V.ref p] ∧ SqL K H p l ∧ Q (V.int (l.length : Nat)) H
theorem len_in {X : Cx} {K : PySem.W.Frag} (h : X.K = K) : CallR X (.builtin "len") (lenOf K) := by
  subst h
  intro pins s σ H vs us Q I r ⟨p, l, e, hl, q⟩
  exact call_len_seq pins s σ H vs us Q I r ⟨p, l, e, .inl hl, q⟩
theorem op_in_of {X : Cx} {K : PySem.W.Frag} (h : X.K = K) : OpR X (compareOp .In) (rIn K false) := by
  subst h
  exact op_in_seq
end My
namespace My
open PySem PySem.Spec PyProof.Rows L2
open PySem.W (Codec)
abbrev sFrom : Stmt := top 6
theorem scFrom : FnScope ["s", "t", "walk", "state"] ["s", "t"] (defScope sFrom) := ⟨rfl, rfl, rfl, by decide +kernel, rfl, by decide +kernel, by decide +kernel⟩
def spFrom (K : PySem.W.Frag) : Sp := fun vs H Q _ => ∃ (a : Addr) (n s : Nat) (t : List Nat), vs = [.int (s : Nat), .ref a] ∧ SqL K H a (tV t) ∧ t.length = n ∧ n ≤ 4 ∧ s < 2 ^ n ∧
  ∀ (H' : Hp) (p : Addr) (m w : Nat), Way n t s m w → H' p = some (.lst (tV (way n t s m))) → H p = none → Same H H' → Q (.ref p) H'
section
variable {P : Program} {w : World} {K : PySem.W.Frag} {mg : Str → Option Value} {base : Heap}
/-! ### states_from -/
theorem ok_from {f f3 : Addr} {fd fd3 : FuncData} (F : Fun K "states_from" "states_from" sFrom f fd) (F3 : Fun K "state_behind" "state_behind" sBehind f3 fd3) (b3 : Binds K fd3 ["s", "t"] []) (g3 : mg "state_behind" = some (.ref f3))
    (me : mg "enumerate" = none) : FnOk P w K mg base CX0 2 f fd ["s", "t"] (spFrom K) := by
  have G3 : FnOk P w K mg base CX0 1 f3 fd3 ["s", "t"] (spBehind K) := ok_behind F3 me
  refine F.ok scFrom (fun vs H Q E h => ?_) (fun cdv A outer sh H vs Q E hr h => ?_)
  · obtain ⟨a, n, s, t, rfl, _⟩ := h
    rfl
  · obtain ⟨a, n, s, t, rfl, hS, hl, h4, hs, q⟩ := h
    refine ⟨_, pss_cons (ps_set (i := 2) scFrom.nd rfl (.inl rfl) (pe_lst pa_nil))
      (pss_cons (ps_set (i := 3) scFrom.nd rfl (.inl rfl) (pv 0))
      (pss_cons (ps_while PassesOwn.never (pt_cmpR op_notIn_seq (pv 3) (pv 2) rfl)
        (pss_cons (ps_expr (pe_bm PySem.F.plainAttrs_list PySem.F.slot_list_append PySem.F.type_list_append mt_append (pv 2) (pa_cons (pv 3) pa_nil)))
        (pss_one (ps_set (i := 3) scFrom.nd rfl (.inl rfl) (pe_call G3 hr (by rfl) g3 F3.kp b3 .nil pass0 (pa_cons (pv 3) (pa_cons (pv 1) pa_nil)))))))
      (pss_one (ps_ret (pv 2))))), ?_⟩
    refine ⟨Nat.zero_le _, fun p hp => ⟨_, rfl, ?_⟩⟩
    have h16 := pow_small h4
    refine ⟨fun k σ H' => ∃ m : Nat, k + m = 2 ^ n ∧ σ = [some (.int (s : Nat)), some (.ref a), some (.ref p), some (.int ((Kzk1.after n t m s : Nat) : Int))] ∧ H' p = some (.lst (tV (way n t s m))) ∧ Same H H' ∧
      ∀ i j, i < j → j < m → Kzk1.after n t i s ≠ Kzk1.after n t j s, ⟨2 ^ n, 0, rfl, rfl, upd_same, same_new hp, fun i j _ hj => absurd hj (Nat.not_lt_zero j)⟩, ?_⟩
    rintro k σ H' ⟨m, hk, rfl, hH, sm, ap⟩
    refine ⟨_, rfl, _, rfl, p, _, rfl, .inl (SqL.of hH), rfl, tV_flat _, _, rfl, ?_⟩
    rw [inV_tV]
    by_cases c : Kzk1.after n t m s ∈ way n t s m
    · rw [decide_eq_true c]
      obtain ⟨v, hv, e⟩ := mem_way.mp c
      exact iteF ⟨_, rfl, q _ p m v ⟨hs, ap, hv, e.symm⟩ hH hp sm⟩
    · rw [decide_eq_false c]
      have ap' : ∀ i j, i < j → j < m + 1 → Kzk1.after n t i s ≠ Kzk1.after n t j s := fun i j hij hj => by
        by_cases z : j < m
        · exact ap i j hij z
        · have z2 : j = m := by omega
          subst z2
          exact fun e3 => c (mem_way.mpr ⟨i, hij, e3⟩)
      have hm := way_few hs ap'
      refine iteT ⟨fun σ' H2 => σ' = [some (.int (s : Nat)), some (.ref a), some (.ref p), some (.int ((Kzk1.after n t (m + 1) s : Nat) : Int))] ∧ H2 p = some (.lst (tV (way n t s (m + 1)))) ∧ Same H H2,
        fun σ' H2 ⟨e1, e2, e3⟩ => ⟨2 ^ n - (m + 1), by omega, m + 1, by omega, e1, e2, e3, ap'⟩, ?_⟩
      -- walk.append(state)
      refine ⟨_, rfl, .inl ⟨rfl, _, SqL.of hH⟩, _, rfl, p, _, _, rfl, rfl, hH, ?_, ?_⟩
      · rw [tV_len, way_len]
        exact Nat.lt_of_lt_of_le (show m < 17 by omega) (by decide)
      have sm2 : Same H (upd H' p (.lst (tV (way n t s m) ++ [.int ((Kzk1.after n t m s : Nat) : Int)]))) := fun b o e => by
        rw [upd_ne (ne_of_none e hp)]
        exact sm b o e
      -- state = state_behind(state, t)
      refine ⟨_, rfl, _, rfl, a, Kzk1.after n t m s, t, rfl, sm2.seq hS, by omega, fun H2 s2 => ?_⟩
      rw [hl, ← after_succ]
      refine ⟨rfl, ?_, sm2.trans s2⟩
      rw [way_succ, tV_append]
      exact s2 _ _ upd_same
end
end My
namespace My
/-! Which states come to the round of s. -/
def comes (n : Nat) (t : List Nat) (s x : Nat) : Bool := Kzk1.least (Kzk1.round n t x) == Kzk1.least (Kzk1.round n t s)
/-- these, below i -/
def home (n : Nat) (t : List Nat) (s i : Nat) : List Nat := (List.range i).filter (comes n t s)
theorem home_all (n : Nat) (t : List Nat) (s : Nat) : (home n t s (2 ^ n)).length = Kzk1.basin n t s := rfl
theorem home_le (n : Nat) (t : List Nat) (s i : Nat) : (home n t s i).length ≤ i := by
  have h := List.length_filter_le (comes n t s) (List.range i)
  rw [List.length_range] at h
  exact h
/-- one state of the round of s stands on the way of x just if x comes to that round -/
theorem way_comes {n : Nat} {t : List Nat} {x s m v y : Nat} (W : Way n t x m v) (hs : s < 2 ^ n) (hy : y ∈ Kzk1.round n t s) : y ∈ way n t x m ↔ comes n t s x = true := by
  unfold comes
  rw [beq_iff_eq]
  constructor
  · intro h
    obtain ⟨i, _, e⟩ := mem_way.mp h
    exact same_round W.hs hs ((mem_round W.hs).mpr ⟨((mem_round hs).mp hy).1, i, e⟩) hy
  · intro e
    have z := (meet W.hs hs e y).mpr hy
    rw [W.round] at z
    obtain ⟨k, hk, e2⟩ := List.mem_map.mp z
    have hk' := List.mem_range.mp hk
    exact mem_way.mpr ⟨v + k, by omega, e2⟩
theorem home_yes {n : Nat} {t : List Nat} {s i : Nat} (h : comes n t s i = true) : home n t s (i + 1) = home n t s i ++ [i] := by
  unfold home
  rw [filter_more, if_pos h]
theorem home_no {n : Nat} {t : List Nat} {s i : Nat} (h : ¬ comes n t s i = true) : home n t s (i + 1) = home n t s i := by
  unfold home
  rw [filter_more, if_neg h, List.append_nil]
end My
namespace My
open PySem PySem.Spec PyProof.Rows L2
open PySem.W (Codec)
abbrev sBasin : Stmt := top 7
theorem scBasin : FnScope ["n", "s", "t", "on_round", "state"] ["n", "s", "t"] (defScope sBasin) := ⟨rfl, rfl, rfl, by decide +kernel, rfl, by decide +kernel, by decide +kernel⟩
def spBasin (K : PySem.W.Frag) : Sp := fun vs H Q _ => ∃ (a : Addr) (n s : Nat) (t : List Nat), vs = [.int (n : Nat), .int (s : Nat), .ref a] ∧ SqL K H a (tV t) ∧
  ∀ (H' : Hp) (p : Addr), H' p = some (.lst ((PyKzk1.basin n s (cast t)).map V.int)) → Q (.ref p) H'
section
variable {P : Program} {w : World} {K : PySem.W.Frag} {mg : Str → Option Value} {base : Heap}
theorem ok_basin {f f1 f2 f3 f4 : Addr} {fd fd1 fd2 fd3 fd4 : FuncData} (F : Fun K "basin" "basin" sBasin f fd) (F1 : Fun K "rules_fit" "rules_fit" sFit f1 fd1) (b1 : Binds K fd1 ["n", "t"] []) (F2 : Fun K "state_fits" "state_fits" sState f2 fd2) (b2 : Binds K fd2 ["n", "s", "t"] [])
    (F3 : Fun K "state_behind" "state_behind" sBehind f3 fd3) (b3 : Binds K fd3 ["s", "t"] []) (F4 : Fun K "states_from" "states_from" sFrom f4 fd4) (b4 : Binds K fd4 ["s", "t"] [])
    (g1 : mg "rules_fit" = some (.ref f1)) (g2 : mg "state_fits" = some (.ref f2)) (g3 : mg "state_behind" = some (.ref f3)) (g4 : mg "states_from" = some (.ref f4))
    {uR uT : Tok} (gR : mg "REFUSED" = some (.int (-22) uR)) (gT : mg "MOST_TOWERS" = some (.int 4 uT)) (ml : mg "len" = none) (me : mg "enumerate" = none) (mr : mg "range" = none) :
    FnOk P w K mg base CX0 3 f fd ["n", "s", "t"] (spBasin K) := by
  have G2 : FnOk P w K mg base CX0 2 f2 fd2 ["n", "s", "t"] (spState K) := ok_state F2 F1 b1 g1 gT ml
  have G4 : FnOk P w K mg base CX0 2 f4 fd4 ["s", "t"] (spFrom K) := ok_from F4 F3 b3 g3 me
  refine F.ok scBasin (fun vs H Q E h => ?_) (fun cdv A outer sh H vs Q E hr h => ?_)
  · obtain ⟨a, n, s, t, rfl, _⟩ := h
    rfl
  · obtain ⟨a, n, s, t, rfl, hS, q⟩ := h
    refine ⟨_, pss_cons (ps_if (pt_not (pt_val (pe_call G2 hr (by rfl) g2 F2.kp b2 .nil pass0 (pa_cons (pv 0) (pa_cons (pv 1) (pa_cons (pv 2) pa_nil))))))
        (pss_one (ps_ret (pe_lst (pa_cons (pe_glob (v := .int (-22)) rfl gR ⟨_, rfl⟩) pa_nil)))) pss_nil)
      (pss_cons (ps_set (i := 3) scBasin.nd rfl (.inr rfl) (pe_ix ix_list (pe_call G4 hr (by rfl) g4 F4.kp b4 .nil pass0 (pa_cons (pv 1) (pa_cons (pv 2) pa_nil))) (pe_un un_neg pe_int) (fun _ _ => rfl)))
      (pss_one (ps_ret (pe_lst (pa_cons (pe_callB call_len_seq (by rfl) ml PySem.boot_len (pa_cons
        (pe_lc (own := [("state", 4)]) (g := gName 4) (by rfl) scBasin.nd (pi_range1 rfl mr (pa_cons (pe_op op_shl pe_int (pv 0)) pa_nil))
          (blkOk_by (own := [("state", 4)]) (N := ["n", "s", "t", "on_round", "state"]) (sc := defScope sBasin) (by decide +kernel))
          (fun _ _ _ _ _ => pg_name (i := 4) scBasin.nd rfl (Or.inl rfl))
          (fun _ _ _ _ _ => pts_one (pt_cmpR (op_in_of (K := K) (by rfl)) (pv 3) (pe_call G4 hr (by rfl) g4 F4.kp b4 .nil pass0 (pa_cons (pv 4) (pa_cons (pv 2) pa_nil))) rfl))
          (fun _ _ _ _ _ => pv 4)) pa_nil)) pa_nil))))), ?_⟩
    rw [due_basin] at q
    -- state_fits(n, s, t)
    refine ⟨_, rfl, _, rfl, _, rfl, a, n, s, t, rfl, hS, _, rfl, ?_⟩
    cases c : Kzk1.good n s t with
    | false =>
      rw [c, if_pos rfl] at q
      exact iteT ⟨by show 1 ≤ sizeLine; decide, fun p _ => q _ p upd_same⟩
    | true =>
      rw [c, if_neg (by intro z; cases z)] at q
      obtain ⟨ok, hs⟩ := good_true c
      obtain ⟨h1, h4, hl, _⟩ := (ok_iff n t).mp ok
      have h16 := pow_small h4
      -- on_round = states_from(s, t)[-1]
      refine iteF ⟨_, rfl, _, rfl, a, n, s, t, rfl, hS, hl, h4, hs, fun H1 p m v W hp np s1 => ?_⟩
      have hv := W.hw
      obtain ⟨m', rfl⟩ : ∃ m', m = m' + 1 := ⟨m - 1, by omega⟩
      have last : atI (tV (way n t s (m' + 1))) (-1) = some (.int ((Kzk1.after n t m' s : Nat) : Int)) := by
        rw [way_succ, tV_append]
        exact atI_last _ _
      have hy : Kzk1.after n t m' s ∈ Kzk1.round n t s := mem_far W (by omega)
      refine ⟨1, rfl, p, _, _, _, rfl, rfl, SqL.of hp, last, ?_⟩
      -- range(1 << n)
      refine ⟨_, rfl, 1, _, rfl, rfl, small_one n (by omega), _, rfl, (by show _ ≤ (1 : Int) * 2 ^ ((n : Nat) : Int).toNat; rw [shl_one]; exact Int.le_trans (by decide) (Int.natCast_nonneg (2 ^ n))),
        (by show (1 : Int) * 2 ^ ((n : Nat) : Int).toNat < _; rw [shl_one]; exact Int.lt_of_le_of_lt (Int.ofNat_le.mpr h16) (by decide)), fun D hD => lc_range (lo := 0) (n := ((1 : Int) * 2 ^ ((n : Nat) : Int).toNat).toNat)
          (fun i H' => H' D = some (.lst (tV (home n t s i))) ∧ Same H1 H') ⟨(show upd H1 D (.lst []) D = some (.lst (tV (home n t s 0))) from upd_same), same_new hD⟩ ?_ ?_⟩
      · rintro i H' hi ⟨hT, sm⟩
        rw [shl_one, Int.toNat_natCast] at hi
        rw [Int.zero_add]
        -- on_round in states_from(state, t)
        refine ⟨rfl, _, rfl, _, rfl, _, rfl, a, n, i, t, rfl, (s1.trans sm).seq hS, hl, h4, hi, fun H2 p2 m2 v2 W2 hp2 _ s2 => ?_⟩
        have hT2 := s2 _ _ hT
        have sm2 := sm.trans s2
        refine ⟨p2, _, rfl, .inl (SqL.of hp2), rfl, tV_flat _, _, rfl, ?_⟩
        rw [inV_tV]
        by_cases y : Kzk1.after n t m' s ∈ way n t i m2
        · rw [decide_eq_true y]
          refine iteT ⟨_, rfl, _, hT2, ?_, ?_, same_put hD sm2⟩
          · rw [tV_len]
            have hle := home_le n t s i
            exact Nat.lt_of_lt_of_le (show (home n t s i).length < 17 by omega) (by decide)
          · rw [upd_same, home_yes ((way_comes W2 hs hy).mp y), tV_append]
            rfl
        · rw [decide_eq_false y]
          refine iteF ⟨?_, sm2⟩
          rw [home_no fun z => y ((way_comes W2 hs hy).mpr z)]
          exact hT2
      · rintro H2 ⟨hT, sm⟩
        rw [shl_one, Int.toNat_natCast] at hT
        refine ⟨D, _, rfl, .inl (SqL.of hT), by show 1 ≤ sizeLine; decide, fun r hr0 => q _ r ?_⟩
        rw [upd_same, tV_len, home_all]
        rfl
end
end My
namespace My
open PySem PySem.Spec PyProof.Rows L2
open PySem.W (Codec)
/-! ### The end -/
theorem all_mk {P : Program} {w : World} {K : PySem.W.Frag} {h : Heap} {mg : Str → Option Value} {fa f1 f2 f3 f4 f5 : Addr} {u0 u1 : Tok} (X : K.In h) (G : h.Ns mainGlobals mg) (hfa : mg "basin" = some (.ref fa))
    {od1 an1 od2 an2 od3 an3 od4 an4 od5 an5 : Option Addr} {sl1 sl2 sl3 sl4 sl5 : Array (Option Value)} {oc1 kV1 dc1 pm1 cd1 ct1 oc2 kV2 dc2 pm2 cd2 ct2 oc3 kV3 dc3 pm3 cd3 ct3 oc4 kV4 dc4 pm4 cd4 ct4 oc5 kV5 dc5 pm5 cd5 ct5 : Value}
    (a1 : PySem.W.nsIn K mainGlobals "rules_fit" = some (some (.ref f1))) (l1 : K.lookup f1 = some ⟨oc1, od1, .func (PySem.W.fnOf "rules_fit" "rules_fit" (defArgs sFit) (defBody sFit) (defScope sFit) .none kV1 dc1 pm1 an1 cd1 ct1), sl1⟩) (c1 : PySem.W.codeIn K cd1 "rules_fit" = true) (k1 : PySem.W.keepIn K (.ref f1) = true)
    (a2 : PySem.W.nsIn K mainGlobals "state_fits" = some (some (.ref f2))) (l2 : K.lookup f2 = some ⟨oc2, od2, .func (PySem.W.fnOf "state_fits" "state_fits" (defArgs sState) (defBody sState) (defScope sState) .none kV2 dc2 pm2 an2 cd2 ct2), sl2⟩) (c2 : PySem.W.codeIn K cd2 "state_fits" = true) (k2 : PySem.W.keepIn K (.ref f2) = true)
    (a3 : PySem.W.nsIn K mainGlobals "state_behind" = some (some (.ref f3))) (l3 : K.lookup f3 = some ⟨oc3, od3, .func (PySem.W.fnOf "state_behind" "state_behind" (defArgs sBehind) (defBody sBehind) (defScope sBehind) .none kV3 dc3 pm3 an3 cd3 ct3), sl3⟩) (c3 : PySem.W.codeIn K cd3 "state_behind" = true) (k3 : PySem.W.keepIn K (.ref f3) = true)
    (a4 : PySem.W.nsIn K mainGlobals "states_from" = some (some (.ref f4))) (l4 : K.lookup f4 = some ⟨oc4, od4, .func (PySem.W.fnOf "states_from" "states_from" (defArgs sFrom) (defBody sFrom) (defScope sFrom) .none kV4 dc4 pm4 an4 cd4 ct4), sl4⟩) (c4 : PySem.W.codeIn K cd4 "states_from" = true) (k4 : PySem.W.keepIn K (.ref f4) = true)
    (a5 : PySem.W.nsIn K mainGlobals "basin" = some (some (.ref f5))) (l5 : K.lookup f5 = some ⟨oc5, od5, .func (PySem.W.fnOf "basin" "basin" (defArgs sBasin) (defBody sBasin) (defScope sBasin) .none kV5 dc5 pm5 an5 cd5 ct5), sl5⟩) (c5 : PySem.W.codeIn K cd5 "basin" = true) (k5 : PySem.W.keepIn K (.ref f5) = true)
    (e0 : PySem.W.nsIn K mainGlobals "REFUSED" = some (some (.int (-22) u0)))
    (e1 : PySem.W.nsIn K mainGlobals "MOST_TOWERS" = some (some (.int (4) u1)))
    (z0 : PySem.W.nsIn K mainGlobals "len" = some none)
    (z1 : PySem.W.nsIn K mainGlobals "enumerate" = some none)
    (z2 : PySem.W.nsIn K mainGlobals "range" = some none)
    : ∃ fd : FuncData, (∀ (s : Shared) (us : List Value), us.length = (["n", "s", "t"] : List Str).length → BindsTo s fd ⟨us, []⟩ ((["n", "s", "t"] : List Str).zip us)) ∧ ∀ base : Heap, K.In base → base.Ns mainGlobals mg → FnOk P w K mg base CX0 3 fa fd ["n", "s", "t"] (spBasin K) := by
  have e := hfa.symm.trans (PySem.W.mg_of X G a5)
  cases e
  have F1 := fun_mk (st := sFit) l1 c1 k1
  have F2 := fun_mk (st := sState) l2 c2 k2
  have F3 := fun_mk (st := sBehind) l3 c3 k3
  have F4 := fun_mk (st := sFrom) l4 c4 k4
  have F5 := fun_mk (st := sBasin) l5 c5 k5
  have b1 := F1.binds (ps := ["n", "t"]) fun _ _ _ _ _ _ us hl => match us, hl with | [_, _], _ => rfl
  have b2 := F2.binds (ps := ["n", "s", "t"]) fun _ _ _ _ _ _ us hl => match us, hl with | [_, _, _], _ => rfl
  have b3 := F3.binds (ps := ["s", "t"]) fun _ _ _ _ _ _ us hl => match us, hl with | [_, _], _ => rfl
  have b4 := F4.binds (ps := ["s", "t"]) fun _ _ _ _ _ _ us hl => match us, hl with | [_, _], _ => rfl
  exact ⟨PySem.W.fnOf "basin" "basin" (defArgs sBasin) (defBody sBasin) (defScope sBasin) .none kV5 dc5 pm5 an5 cd5 ct5, fun s us hu => match us, hu with | [_, _, _], _ => .of_eq rfl,
    fun base _ _ => ok_basin F5 F1 b1 F2 b2 F3 b3 F4 b4 (PySem.W.mg_of X G a1) (PySem.W.mg_of X G a2) (PySem.W.mg_of X G a3) (PySem.W.mg_of X G a4) (PySem.W.mg_of X G e0) (PySem.W.mg_of X G e1) (PySem.W.mg_none_of X G z0) (PySem.W.mg_none_of X G z1) (PySem.W.mg_none_of X G z2)⟩
end My
open PySem PySem.W PyProof.Rows
set_option maxRecDepth 100000 in
set_option maxHeartbeats 8000000 in
theorem PySem.Challenge.cw_towerflags_s07_basin_holds : PySem.Challenge.rw_towerflags_s07_basin.Holds := by
  w_on; k_headS; (case hw => exact ⟨[.int 1, .int 0, .list []], by decide +kernel, by decide +kernel⟩)
  k_fillS
  refine L2.walk_specK (r := PySem.Challenge.rw_towerflags_s07_basin) (k := 3) (CX := L2.CX0) (ps := ["n", "s", "t"]) (sp := My.spBasin) (by decide +kernel) rfl rfl ⟨rfl, by decide, by decide⟩ (fun w h Y => PySem.W.kIn_of Y) ?F ?S (fun _ _ _ _ z => z)
  case F =>
    intro w mg fa h Y KX G hmg
    refine' My.all_mk KX G hmg ?a1 ?l1 ?c1 ?k1 ?a2 ?l2 ?c2 ?k2 ?a3 ?l3 ?c3 ?k3 ?a4 ?l4 ?c4 ?k4 ?a5 ?l5 ?c5 ?k5 ?e0 ?e1 ?z0 ?z1 ?z2
    (case a1 => k_is)
    (case l1 => k_is)
    (case c1 => k_is)
    (case k1 => k_is)
    (case a2 => k_is)
    (case l2 => k_is)
    (case c2 => k_is)
    (case k2 => k_is)
    (case a3 => k_is)
    (case l3 => k_is)
    (case c3 => k_is)
    (case k3 => k_is)
    (case a4 => k_is)
    (case l4 => k_is)
    (case c4 => k_is)
    (case k4 => k_is)
    (case a5 => k_is)
    (case l5 => k_is)
    (case c5 => k_is)
    (case k5 => k_is)
    (case e0 => k_is)
    (case e1 => k_is)
    (case z0 => k_is)
    (case z1 => k_is)
    (case z2 => k_is)
  case S =>
    intro K H xs a hO hwi hask hx
    obtain ⟨n', s', t', u⟩ := a
    have q : (Codec.inInt 0 4294967295 n' && (Codec.inInt 0 4294967295 s' && ((Codec.inLen 0 10 t' && t'.all (Codec.inInt 0 65535)) && true))) = true := hwi
    simp only [Bool.and_eq_true, Bool.and_true] at q
    obtain ⟨qn, qs, ql, qt⟩ := q
    obtain ⟨n, rfl⟩ := Int.eq_ofNat_of_zero_le (Codec.inInt_iff.mp qn).1
    obtain ⟨s, rfl⟩ := Int.eq_ofNat_of_zero_le (Codec.inInt_iff.mp qs).1
    obtain ⟨t, rfl⟩ := My.cast_of fun x hx => (Codec.inInt_iff.mp (List.all_eq_true.mp qt x hx)).1
    cases hx with
    | cons c0 d0 =>
      cases d0 with
      | cons c1 d1 =>
        cases d1 with
        | cons c2 d2 =>
          cases d2
          cases c0
          cases c1
          cases c2 with
          | lst hs ha =>
            have e := L2.ints_dw (My.cast t) _ ha
            subst e
            exact ⟨_, n, s, t, rfl, hs, fun H' p hp => .lst (L2.SqL.of hp) (L2.dw_ints _)⟩
#print axioms PySem.Challenge.cw_towerflags_s07_basin_holds
