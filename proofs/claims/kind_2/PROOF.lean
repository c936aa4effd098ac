import PyProof.Rows.All
import Wide.All
import OpenK.AllK
import Wide.FinOn
import Open.SpecLaws
import KE.OsGo
import HandS.ForSpec
import HandS.Evl
import HandS.SetFor
import PySem.Challenge.RW_planerepeats_s02_kind
set_option Elab.async false
set_option linter.all false
set_option maxRecDepth 100000
set_option maxHeartbeats 4000000
set_option Elab.async false
namespace CM
open Sa48 Sa48Neutral

/-! ### the place's colour: what is the same modulo n is the same -/
theorem at_mod {p : Pat} {x y x' y' : Int} (hx : x % (p.n : Int) = x' % (p.n : Int)) (hy : y % (p.n : Int) = y' % (p.n : Int)) : p.at_ x y = p.at_ x' y' := by
  unfold Pat.at_
  rw [hx, hy]

theorem mem_rg {n : Nat} {x : Int} : x ∈ rg n ↔ 0 ≤ x ∧ x < (n : Int) := by
  unfold rg
  rw [List.mem_map]
  constructor
  · rintro ⟨i, hi, rfl⟩
    have := List.mem_range.mp hi
    omega
  · rintro ⟨h0, h1⟩
    exact ⟨x.toNat, List.mem_range.mpr (by omega), by omega⟩

theorem emod_add_congr {a b c n : Int} (h : a % n = b % n) : (a + c) % n = (b + c) % n := by
  rw [Int.add_emod, h, ← Int.add_emod]
theorem emod_neg_congr {a b n : Int} (h : a % n = b % n) : (-a) % n = (-b) % n := by
  have h1 : n ∣ a - b := Int.dvd_of_emod_eq_zero (Int.emod_eq_emod_iff_emod_sub_eq_zero.mp h)
  refine Int.emod_eq_emod_iff_emod_sub_eq_zero.mpr ?_
  refine Int.emod_eq_zero_of_dvd ?_
  have e : -a - -b = -(a - b) := by omega
  rw [e]
  exact Int.dvd_neg.mpr h1

theorem turned_congr {a : Nat} {x y x' y' n : Int} (hx : x % n = x' % n) (hy : y % n = y' % n) :
    (turned a x y).1 % n = (turned a x' y').1 % n ∧ (turned a x y).2 % n = (turned a x' y').2 % n := by
  have nx := emod_neg_congr hx
  have ny := emod_neg_congr hy
  unfold turned
  repeat' split
  all_goals (first | exact ⟨hx, hy⟩ | exact ⟨ny, hx⟩ | exact ⟨nx, ny⟩ | exact ⟨hy, nx⟩ | exact ⟨nx, hy⟩ | exact ⟨hx, ny⟩ | exact ⟨hy, hx⟩ | exact ⟨ny, nx⟩)

theorem emod_self_congr (x n : Int) : (x % n) % n = x % n := Int.emod_emod_of_dvd x (Int.dvd_refl n)

/-- a symmetry of the square's places is one of all -/
theorem sym_iff {p : Pat} (hn : 0 < p.n) {a : Nat} {u v : Int} : sym p a u v = true ↔ ∀ x y : Int, p.at_ ((Move.mk a u v).takes x y).1 ((Move.mk a u v).takes x y).2 = p.at_ x y := by
  unfold sym
  rw [List.all_eq_true]
  constructor
  · intro h x y
    have hnz : (0 : Int) < (p.n : Int) := by omega
    have hx : x % (p.n : Int) ∈ rg p.n := mem_rg.mpr ⟨Int.emod_nonneg _ (by omega), Int.emod_lt_of_pos _ hnz⟩
    have hy : y % (p.n : Int) ∈ rg p.n := mem_rg.mpr ⟨Int.emod_nonneg _ (by omega), Int.emod_lt_of_pos _ hnz⟩
    have h1 := List.all_eq_true.mp (h _ hx) _ hy
    have h2 : p.at_ ((Move.mk a u v).takes (x % (p.n : Int)) (y % (p.n : Int))).1 ((Move.mk a u v).takes (x % (p.n : Int)) (y % (p.n : Int))).2 = p.at_ (x % (p.n : Int)) (y % (p.n : Int)) := eq_of_beq h1
    have h3 := turned_congr (a := a) (emod_self_congr x p.n) (emod_self_congr y p.n)
    have e1 : p.at_ ((Move.mk a u v).takes (x % (p.n : Int)) (y % (p.n : Int))).1 ((Move.mk a u v).takes (x % (p.n : Int)) (y % (p.n : Int))).2 = p.at_ ((Move.mk a u v).takes x y).1 ((Move.mk a u v).takes x y).2 :=
      at_mod (emod_add_congr h3.1) (emod_add_congr h3.2)
    have e2 : p.at_ (x % (p.n : Int)) (y % (p.n : Int)) = p.at_ x y := at_mod (emod_self_congr x p.n) (emod_self_congr y p.n)
    rw [← e1, ← e2]
    exact h2
  · intro h x _
    refine List.all_eq_true.mpr fun y _ => ?_
    exact beq_iff_eq.mpr (h x y)

/-! ### shifts -/
def S (p : Pat) (u v : Int) : Prop := ∀ x y : Int, p.at_ (x + u) (y + v) = p.at_ x y
theorem sym0 {p : Pat} (hn : 0 < p.n) {u v : Int} : sym p 0 u v = true ↔ S p u v := sym_iff hn
theorem S.add {p : Pat} {u v u' v' : Int} (h : S p u v) (h' : S p u' v') : S p (u + u') (v + v') := fun x y => by
  have e1 := h' (x + u) (y + v)
  have e2 := h x y
  rw [← Int.add_assoc, ← Int.add_assoc, e1, e2]
theorem S.neg {p : Pat} {u v : Int} (h : S p u v) : S p (-u) (-v) := fun x y => by
  have e := h (x + -u) (y + -v)
  have a1 : x + -u + u = x := by omega
  have a2 : y + -v + v = y := by omega
  rw [a1, a2] at e
  exact e.symm
theorem S.zero {p : Pat} : S p 0 0 := fun x y => by rw [Int.add_zero, Int.add_zero]
theorem S.nmul {p : Pat} {u v : Int} (h : S p u v) : ∀ k : Nat, S p ((k : Int) * u) ((k : Int) * v)
  | 0 => by
    have a : ((0 : Nat) : Int) * u = 0 := by simp
    have b : ((0 : Nat) : Int) * v = 0 := by simp
    rw [a, b]
    exact S.zero
  | k + 1 => by
    have a : ((k + 1 : Nat) : Int) * u = (k : Int) * u + u := by rw [Int.natCast_add, Int.add_mul]; simp
    have b : ((k + 1 : Nat) : Int) * v = (k : Int) * v + v := by rw [Int.natCast_add, Int.add_mul]; simp
    rw [a, b]
    exact (S.nmul h k).add h
theorem S.mul {p : Pat} {u v : Int} (h : S p u v) (k : Int) : S p (k * u) (k * v) := by
  rcases Int.le_total 0 k with hk | hk
  · have e := S.nmul h k.toNat
    rw [Int.toNat_of_nonneg hk] at e
    exact e
  · have e := (S.nmul h (-k).toNat).neg
    rw [Int.toNat_of_nonneg (by omega), Int.neg_mul, Int.neg_mul, Int.neg_neg, Int.neg_neg] at e
    exact e
theorem S.n0 (p : Pat) : S p (p.n : Int) 0 := fun x y => at_mod (by rw [Int.add_emod_right]) (by rw [Int.add_zero])
theorem S.n1 (p : Pat) : S p 0 (p.n : Int) := fun x y => at_mod (by rw [Int.add_zero]) (by rw [Int.add_emod_right])
theorem S.of_eq {p : Pat} {u v u' v' : Int} (h : S p u v) (e1 : u = u') (e2 : v = v') : S p u' v' := by
  subst e1 e2
  exact h

/-! ### the least ones -/
/-- e is the least above 0 with (e, 0) -/
structure Ea (p : Pat) (e : Nat) : Prop where
  pos : 0 < e
  is : S p (e : Int) 0
  least : ∀ k : Nat, 0 < k → k < e → ¬ S p (k : Int) 0
theorem Ea.dvd {p : Pat} {e : Nat} (h : Ea p e) {u : Int} (hu : S p u 0) : (e : Int) ∣ u := by
  have hp := h.pos
  have h1 : S p (u % (e : Int)) 0 := ((hu.add ((h.is.mul (u / (e : Int))).neg))).of_eq (by
    have := Int.mul_ediv_add_emod u (e : Int)
    rw [Int.mul_comm] at this
    omega) (by simp)
  have h2 : 0 ≤ u % (e : Int) := Int.emod_nonneg _ (by omega)
  have h3 : u % (e : Int) < (e : Int) := Int.emod_lt_of_pos _ (by omega)
  by_cases hz : u % (e : Int) = 0
  · exact Int.dvd_of_emod_eq_zero hz
  · have hk : S p ((u % (e : Int)).toNat : Int) 0 := h1.of_eq (by omega) rfl
    exact absurd hk (h.least _ (by omega) (by omega))
theorem Ea.iff {p : Pat} {e : Nat} (h : Ea p e) {u : Int} : S p u 0 ↔ (e : Int) ∣ u := by
  refine ⟨h.dvd, fun ⟨k, hk⟩ => (h.is.mul k).of_eq (by rw [hk, Int.mul_comm]) (by simp)⟩
/-- g is the least above 0 with some (f, g), f below e -/
structure Ga (p : Pat) (e f g : Nat) : Prop where
  pos : 0 < g
  lt : f < e
  is : S p (f : Int) (g : Int)
  least : ∀ k : Nat, 0 < k → k < g → ∀ u : Int, ¬ S p u (k : Int)
theorem Ga.dvd {p : Pat} {e f g : Nat} (h : Ga p e f g) {u v : Int} (hu : S p u v) : (g : Int) ∣ v := by
  have hp := h.pos
  have h1 : S p (u - v / (g : Int) * (f : Int)) (v % (g : Int)) := ((hu.add ((h.is.mul (v / (g : Int))).neg))).of_eq (by omega) (by
    have := Int.mul_ediv_add_emod v (g : Int)
    rw [Int.mul_comm] at this
    omega)
  have h2 : 0 ≤ v % (g : Int) := Int.emod_nonneg _ (by omega)
  have h3 : v % (g : Int) < (g : Int) := Int.emod_lt_of_pos _ (by omega)
  by_cases hz : v % (g : Int) = 0
  · exact Int.dvd_of_emod_eq_zero hz
  · have hk : S p (u - v / (g : Int) * (f : Int)) ((v % (g : Int)).toNat : Int) := h1.of_eq rfl (by omega)
    exact absurd hk (h.least _ (by omega) (by omega) _)
theorem SG_iff {p : Pat} {e f g : Nat} (he : Ea p e) (h : Ga p e f g) {u v : Int} : S p u v ↔ (g : Int) ∣ v ∧ (e : Int) ∣ u - v / (g : Int) * (f : Int) := by
  have hp := h.pos
  constructor
  · intro hu
    have hd := h.dvd hu
    refine ⟨hd, he.dvd ?_⟩
    obtain ⟨k, hk⟩ := hd
    have hq : v / (g : Int) = k := by rw [hk]; exact Int.mul_ediv_cancel_left k (by omega)
    rw [hq]
    exact (hu.add ((h.is.mul k).neg)).of_eq (by omega) (by rw [hk, Int.mul_comm]; omega)
  · rintro ⟨⟨k, hk⟩, hd⟩
    have hq : v / (g : Int) = k := by rw [hk]; exact Int.mul_ediv_cancel_left k (by omega)
    rw [hq] at hd
    have h1 := he.iff.mpr hd
    exact (h1.add (h.is.mul k)).of_eq (by omega) (by rw [hk, Int.mul_comm]; omega)

/-! ### counting, for n up to 6: e, f, g decide it -/
def cnt (n e f g : Nat) : Nat := ((((List.range n).flatMap fun (u : Nat) => (List.range n).map fun (v : Nat) => decide ((v : Int) % (g : Int) = 0 ∧ ((u : Int) - (v : Int) / (g : Int) * (f : Int)) % (e : Int) = 0)).filter fun b => b).length)
theorem cnt_all : ∀ n ∈ [1, 2, 3, 4, 5, 6], ∀ e ∈ List.range 7, ∀ g ∈ List.range 7, ∀ f ∈ List.range 7, 0 < e → 0 < g → n % e = 0 → n % g = 0 → f < e → cnt n e f g = (n / e) * (n / g) := by
  decide +kernel

theorem find_getD_eq {l : Nat} {P : Nat → Bool} {k : Nat} (hk : k < l) (h : P k = true) (hl : ∀ j, j < k → P j = false) : ((List.range l).find? P).getD 0 = k := by
  have e : (List.range l).find? P = some k := by
    rw [List.find?_eq_some_iff_append]
    refine ⟨h, List.range k, (List.range' (k + 1) (l - k - 1)), ?_, ?_⟩
    · rw [List.range_eq_range', List.range_eq_range']
      have e1 : l = k + (1 + (l - k - 1)) := by omega
      conv => lhs; rw [e1]
      rw [← List.range'_append_1, Nat.zero_add, ← List.range'_append_1]
      rfl
    · intro j hj
      have := List.mem_range.mp hj
      rw [hl j this]
      rfl
  rw [e]
  rfl

theorem cell_spec {n : Nat} {c : List Int} {e f g : Nat} (hn : 1 ≤ n ∧ n ≤ 6) (he : Ea ⟨n, nats c⟩ e) (hg : Ga ⟨n, nats c⟩ e f g) :
    PySa48.cell (n : Int) c = [0, (e : Int), (f : Int), (g : Int), ((n / e) * (n / g) : Nat)] := by
  have hn0 : 0 < (⟨n, nats c⟩ : Pat).n := by show 0 < n; omega
  have en : e ∣ n := Int.natCast_dvd_natCast.mp (he.dvd (S.n0 ⟨n, nats c⟩))
  have gn : g ∣ n := Int.natCast_dvd_natCast.mp (hg.dvd (S.n1 ⟨n, nats c⟩))
  have e0 := he.pos
  have g0 := hg.pos
  have ele : e ≤ n := Nat.le_of_dvd (by omega) en
  have gle : g ≤ n := Nat.le_of_dvd (by omega) gn
  have fl := hg.lt
  have sS : ∀ u v : Nat, sym ⟨n, nats c⟩ 0 (u : Int) (v : Int) = decide ((v : Int) % (g : Int) = 0 ∧ ((u : Int) - (v : Int) / (g : Int) * (f : Int)) % (e : Int) = 0) := fun u v => by
    rw [Bool.eq_iff_iff, sym0 hn0, SG_iff he hg, decide_eq_true_iff, Int.dvd_iff_emod_eq_zero, Int.dvd_iff_emod_eq_zero]
  have hE : ((List.range n).find? fun (u : Nat) => sym ⟨n, nats c⟩ 0 ((u + 1 : Nat) : Int) ((0 : Nat) : Int)).getD 0 = e - 1 := by
    refine find_getD_eq (by omega) ?_ fun j hj => ?_
    · rw [sym0 hn0]
      exact he.is.of_eq (by omega) rfl
    · rw [← Bool.not_eq_true, sym0 hn0]
      exact he.least (j + 1) (by omega) (by omega)
  have hG : ((List.range n).find? fun (v : Nat) => (List.range n).any fun (u : Nat) => sym ⟨n, nats c⟩ 0 (u : Int) ((v + 1 : Nat) : Int)).getD 0 = g - 1 := by
    refine find_getD_eq (by omega) ?_ fun j hj => ?_
    · rw [List.any_eq_true]
      refine ⟨f, List.mem_range.mpr (by omega), ?_⟩
      rw [sym0 hn0]
      exact hg.is.of_eq rfl (by omega)
    · rw [← Bool.not_eq_true, List.any_eq_true]
      rintro ⟨u, _, hu⟩
      rw [sym0 hn0] at hu
      exact hg.least (j + 1) (by omega) (by omega) _ hu
  have hF : ((List.range e).find? fun (u : Nat) => sym ⟨n, nats c⟩ 0 (u : Int) (g : Int)).getD 0 = f := by
    refine find_getD_eq fl ?_ fun j hj => ?_
    · rw [sym0 hn0]
      exact hg.is
    · rw [← Bool.not_eq_true, sym0 hn0]
      intro hs
      have h2 : S ⟨n, nats c⟩ (((f - j : Nat)) : Int) 0 := (hg.is.add hs.neg).of_eq (by omega) (by omega)
      exact he.least (f - j) (by omega) (by omega) h2
  have hc : (((List.range n).flatMap fun (u : Nat) => (List.range n).map fun (v : Nat) => sym ⟨n, nats c⟩ 0 (u : Int) (v : Int)).filter fun b => b).length = (n / e) * (n / g) := by
    have h1 := cnt_all n (by
      have : n = 1 ∨ n = 2 ∨ n = 3 ∨ n = 4 ∨ n = 5 ∨ n = 6 := by omega
      rcases this with rfl | rfl | rfl | rfl | rfl | rfl <;> decide) e (List.mem_range.mpr (by omega)) g (List.mem_range.mpr (by omega)) f (List.mem_range.mpr (by omega)) e0 g0 (Nat.mod_eq_zero_of_dvd en) (Nat.mod_eq_zero_of_dvd gn) fl
    rw [← h1]
    unfold cnt
    simp only [sS]
  show (if (n : Int).toNat < 1 ∨ 64 < (n : Int).toNat then [-2] else _) = _
  rw [if_neg (by omega)]
  have hnn : (n : Int).toNat = n := Int.toNat_natCast n
  dsimp only
  rw [hnn, hE, hG]
  have g1 : g - 1 + 1 = g := by omega
  have e1 : e - 1 + 1 = e := by omega
  rw [g1, e1, hF, hc]
  rfl
theorem cell_bad {n : Int} {c : List Int} (h : n < 1 ∨ 64 < n) : PySa48.cell n c = [-2] := by
  show (if n.toNat < 1 ∨ 64 < n.toNat then [-2] else _) = _
  rw [if_pos (by omega)]
end CM

set_option Elab.async false
namespace MM
open Sa48 Sa48Neutral

/-! ### a symmetry's shift, modulo n -/
theorem emod_add_congr2 {a a' b b' n : Int} (h : a % n = a' % n) (h' : b % n = b' % n) : (a + b) % n = (a' + b') % n := by
  rw [Int.add_emod, h, h', ← Int.add_emod]
theorem sym_congr {p : Pat} {a : Nat} {u v u' v' : Int} (hu : u % (p.n : Int) = u' % (p.n : Int)) (hv : v % (p.n : Int) = v' % (p.n : Int)) : sym p a u v = sym p a u' v' := by
  have e : ∀ x y : Int, p.at_ ((Move.mk a u v).takes x y).1 ((Move.mk a u v).takes x y).2 = p.at_ ((Move.mk a u' v').takes x y).1 ((Move.mk a u' v').takes x y).2 := fun x y =>
    CM.at_mod (emod_add_congr2 rfl hu) (emod_add_congr2 rfl hv)
  unfold sym
  dsimp only
  simp only [e]
theorem place_congr {p : Pat} {a : Nat} {u v u' v' : Int} (k : Nat) (hu : u % (p.n : Int) = u' % (p.n : Int)) (hv : v % (p.n : Int) = v' % (p.n : Int)) : place p a u v k = place p a u' v' k := by
  unfold place
  dsimp only
  have e1 : ∀ x y : Int, ((Move.mk a u v).takes x y).1 % (p.n : Int) = ((Move.mk a u' v').takes x y).1 % (p.n : Int) := fun x y => emod_add_congr2 rfl hu
  have e2 : ∀ x y : Int, ((Move.mk a u v).takes x y).2 % (p.n : Int) = ((Move.mk a u' v').takes x y).2 % (p.n : Int) := fun x y => emod_add_congr2 rfl hv
  rw [e1, e2]
theorem ix_lt {n y x : Nat} (hy : y < n) (hx : x < n) : y * n + x < n * n := by
  have h1 : (y + 1) * n ≤ n * n := Nat.mul_le_mul_right n hy
  rw [Nat.add_mul, Nat.one_mul] at h1
  omega
theorem place_lt {p : Pat} (hn : 0 < p.n) (a : Nat) (u v : Int) (k : Nat) : place p a u v k < p.n * p.n := by
  unfold place
  dsimp only
  have h0 : (0 : Int) < (p.n : Int) := by omega
  refine ix_lt ?_ ?_
  · have h1 := Int.emod_nonneg ((Move.mk a u v).takes ((k % p.n : Nat) : Int) ((k / p.n : Nat) : Int)).2 (b := (p.n : Int)) (by omega)
    have h2 := Int.emod_lt_of_pos ((Move.mk a u v).takes ((k % p.n : Nat) : Int) ((k / p.n : Nat) : Int)).2 h0
    omega
  · have h1 := Int.emod_nonneg ((Move.mk a u v).takes ((k % p.n : Nat) : Int) ((k / p.n : Nat) : Int)).1 (b := (p.n : Int)) (by omega)
    have h2 := Int.emod_lt_of_pos ((Move.mk a u v).takes ((k % p.n : Nat) : Int) ((k / p.n : Nat) : Int)).1 h0
    omega

/-! ### the eight: one behind another, back -/
def inv (a : Nat) : Nat := if a = 1 then 3 else if a = 3 then 1 else a
def comp (a b : Nat) : Nat := (([[0, 1, 2, 3, 4, 5, 6, 7], [1, 2, 3, 0, 7, 6, 4, 5], [2, 3, 0, 1, 5, 4, 7, 6], [3, 0, 1, 2, 6, 7, 5, 4], [4, 6, 5, 7, 0, 2, 1, 3], [5, 7, 4, 6, 2, 0, 3, 1], [6, 5, 7, 4, 3, 1, 0, 2], [7, 4, 6, 5, 1, 3, 2, 0]] : List (List Nat)).getD a []).getD b 0
theorem comp_turned : ∀ a b : Nat, a < 8 → b < 8 → comp a b < 8 ∧ ∀ x y : Int, turned a (turned b x y).1 (turned b x y).2 = turned (comp a b) x y := by
  intro a b ha hb
  have h1 : a = 0 ∨ a = 1 ∨ a = 2 ∨ a = 3 ∨ a = 4 ∨ a = 5 ∨ a = 6 ∨ a = 7 := by omega
  have h2 : b = 0 ∨ b = 1 ∨ b = 2 ∨ b = 3 ∨ b = 4 ∨ b = 5 ∨ b = 6 ∨ b = 7 := by omega
  rcases h1 with rfl | rfl | rfl | rfl | rfl | rfl | rfl | rfl <;> rcases h2 with rfl | rfl | rfl | rfl | rfl | rfl | rfl | rfl <;>
    exact ⟨by decide, fun x y => by simp [turned, comp]⟩
theorem inv_turned (a : Nat) (ha : a < 8) : inv a < 8 ∧ (∀ x y : Int, turned (inv a) (turned a x y).1 (turned a x y).2 = (x, y)) ∧ ∀ x y : Int, turned a (turned (inv a) x y).1 (turned (inv a) x y).2 = (x, y) := by
  have h1 : a = 0 ∨ a = 1 ∨ a = 2 ∨ a = 3 ∨ a = 4 ∨ a = 5 ∨ a = 6 ∨ a = 7 := by omega
  rcases h1 with rfl | rfl | rfl | rfl | rfl | rfl | rfl | rfl <;>
    exact ⟨by decide, fun x y => by simp [turned, inv], fun x y => by simp [turned, inv]⟩
theorem turned_add (a : Nat) (x y u v : Int) : turned a (x + u) (y + v) = ((turned a x y).1 + (turned a u v).1, (turned a x y).2 + (turned a u v).2) := by
  unfold turned
  repeat' split
  all_goals (refine Prod.ext ?_ ?_ <;> (dsimp only) <;> omega)
theorem turned_neg (a : Nat) (x y : Int) : turned a (-x) (-y) = (-(turned a x y).1, -(turned a x y).2) := by
  unfold turned
  repeat' split
  all_goals (refine Prod.ext ?_ ?_ <;> (dsimp only) <;> omega)

/-! ### what symmetries there are -/
def All (p : Pat) (a : Nat) (u v : Int) : Prop := ∀ x y : Int, p.at_ ((Move.mk a u v).takes x y).1 ((Move.mk a u v).takes x y).2 = p.at_ x y
theorem takes_eq (a : Nat) (u v x y : Int) : (Move.mk a u v).takes x y = ((turned a x y).1 + u, (turned a x y).2 + v) := rfl
/-- one behind another -/
def cu (a' : Nat) (u v u' : Int) : Int := (turned a' u v).1 + u'
def cv (a' : Nat) (u v v' : Int) : Int := (turned a' u v).2 + v'
theorem takes_comp {a a' : Nat} (ha : a < 8) (ha' : a' < 8) (u v u' v' x y : Int) :
    (Move.mk a' u' v').takes ((Move.mk a u v).takes x y).1 ((Move.mk a u v).takes x y).2 = (Move.mk (comp a' a) (cu a' u v u') (cv a' u v v')).takes x y := by
  rw [takes_eq, takes_eq, takes_eq]
  dsimp only
  rw [turned_add, (comp_turned a' a ha' ha).2]
  unfold cu cv
  refine Prod.ext ?_ ?_ <;> (dsimp only) <;> omega
def iu (a : Nat) (u v : Int) : Int := -(turned (inv a) u v).1
def iv (a : Nat) (u v : Int) : Int := -(turned (inv a) u v).2
theorem takes_inv {a : Nat} (ha : a < 8) (u v x y : Int) : (Move.mk (inv a) (iu a u v) (iv a u v)).takes ((Move.mk a u v).takes x y).1 ((Move.mk a u v).takes x y).2 = (x, y) := by
  rw [takes_eq, takes_eq]
  dsimp only
  rw [turned_add, (inv_turned a ha).2.1]
  unfold iu iv
  refine Prod.ext ?_ ?_ <;> (dsimp only) <;> omega
theorem takes_inv' {a : Nat} (ha : a < 8) (u v x y : Int) : (Move.mk a u v).takes ((Move.mk (inv a) (iu a u v) (iv a u v)).takes x y).1 ((Move.mk (inv a) (iu a u v) (iv a u v)).takes x y).2 = (x, y) := by
  rw [takes_eq, takes_eq]
  dsimp only
  rw [turned_add]
  unfold iu iv
  rw [turned_neg, (inv_turned a ha).2.2, (inv_turned a ha).2.2]
  refine Prod.ext ?_ ?_ <;> (dsimp only) <;> omega
theorem All.comp {p : Pat} {a a' : Nat} {u v u' v' : Int} (ha : a < 8) (ha' : a' < 8) (h : All p a u v) (h' : All p a' u' v') : All p (comp a' a) (cu a' u v u') (cv a' u v v') := fun x y => by
  rw [← takes_comp ha ha', h', h]
theorem All.inv {p : Pat} {a : Nat} {u v : Int} (ha : a < 8) (h : All p a u v) : All p (inv a) (iu a u v) (iv a u v) := fun x y => by
  rw [← h, takes_inv' ha]
theorem All.id (p : Pat) : All p 0 0 0 := fun x y => by
  show p.at_ (x + 0) (y + 0) = _
  rw [Int.add_zero, Int.add_zero]

/-! ### places by their two numbers -/
theorem ix_mod {n y x : Nat} (hx : x < n) : (y * n + x) % n = x := by
  rw [Nat.add_comm, Nat.add_mul_mod_self_right, Nat.mod_eq_of_lt hx]
theorem ix_div {n y x : Nat} (hx : x < n) : (y * n + x) / n = y := by
  rw [Nat.add_comm, Nat.add_mul_div_right _ _ (by omega), Nat.div_eq_of_lt hx, Nat.zero_add]
theorem place_mod {p : Pat} (hn : 0 < p.n) (a : Nat) (u v : Int) (k : Nat) : ((place p a u v k % p.n : Nat) : Int) = ((Move.mk a u v).takes ((k % p.n : Nat) : Int) ((k / p.n : Nat) : Int)).1 % (p.n : Int) ∧
    ((place p a u v k / p.n : Nat) : Int) = ((Move.mk a u v).takes ((k % p.n : Nat) : Int) ((k / p.n : Nat) : Int)).2 % (p.n : Int) := by
  have h0 : (0 : Int) < (p.n : Int) := by omega
  unfold place
  dsimp only
  have h1 := Int.emod_nonneg ((Move.mk a u v).takes ((k % p.n : Nat) : Int) ((k / p.n : Nat) : Int)).1 (b := (p.n : Int)) (by omega)
  have h2 := Int.emod_lt_of_pos ((Move.mk a u v).takes ((k % p.n : Nat) : Int) ((k / p.n : Nat) : Int)).1 h0
  have h3 := Int.emod_nonneg ((Move.mk a u v).takes ((k % p.n : Nat) : Int) ((k / p.n : Nat) : Int)).2 (b := (p.n : Int)) (by omega)
  rw [ix_mod (by omega), ix_div (by omega)]
  omega
/-- two places with the same two numbers -/
theorem same_place {n i k : Nat} (h1 : i % n = k % n) (h2 : i / n = k / n) : i = k := by
  rw [← Nat.div_add_mod i n, ← Nat.div_add_mod k n, h1, h2]
theorem div_lt_of {n k : Nat} (hk : k < n * n) : k / n < n := Nat.div_lt_of_lt_mul hk
theorem mod_self_small {n k : Nat} (h : k < n) : ((k : Nat) : Int) % (n : Int) = (k : Int) := by
  rw [← Int.natCast_emod, Nat.mod_eq_of_lt h]
theorem place_comp {p : Pat} (hn : 0 < p.n) {a a' : Nat} (ha : a < 8) (ha' : a' < 8) (u v u' v' : Int) (k : Nat) : place p a' u' v' (place p a u v k) = place p (comp a' a) (cu a' u v u') (cv a' u v v') k := by
  have m1 := place_mod hn a u v k
  have m2 := place_mod hn a' u' v' (place p a u v k)
  have m3 := place_mod hn (comp a' a) (cu a' u v u') (cv a' u v v') k
  rw [← takes_comp ha ha'] at m3
  rw [m1.1, m1.2] at m2
  have t := CM.turned_congr (a := a') (CM.emod_self_congr ((Move.mk a u v).takes ((k % p.n : Nat) : Int) ((k / p.n : Nat) : Int)).1 p.n) (CM.emod_self_congr ((Move.mk a u v).takes ((k % p.n : Nat) : Int) ((k / p.n : Nat) : Int)).2 p.n)
  have e1 := CM.emod_add_congr (c := u') t.1
  have e2 := CM.emod_add_congr (c := v') t.2
  refine same_place (n := p.n) ?_ ?_
  · exact Int.ofNat.inj (m2.1.trans (e1.trans m3.1.symm))
  · exact Int.ofNat.inj (m2.2.trans (e2.trans m3.2.symm))
theorem place_id {p : Pat} {k : Nat} (hk : k < p.n * p.n) : place p 0 0 0 k = k := by
  have hn : 0 < p.n := by
    rcases Nat.eq_zero_or_pos p.n with h | h
    · rw [h] at hk
      omega
    · exact h
  have m := place_mod hn 0 0 0 k
  have e : ∀ x y : Int, (Move.mk 0 0 0).takes x y = (x, y) := fun x y => by
    rw [takes_eq]
    show (x + 0, y + 0) = _
    rw [Int.add_zero, Int.add_zero]
  rw [e] at m
  refine same_place (n := p.n) ?_ ?_
  · have h := m.1
    dsimp only at h
    rw [mod_self_small (Nat.mod_lt _ hn)] at h
    exact Int.ofNat.inj h
  · have h := m.2
    dsimp only at h
    rw [mod_self_small (div_lt_of hk)] at h
    exact Int.ofNat.inj h
theorem place_inv {p : Pat} {a : Nat} (ha : a < 8) (u v : Int) {k : Nat} (hk : k < p.n * p.n) : place p (inv a) (iu a u v) (iv a u v) (place p a u v k) = k := by
  have hn : 0 < p.n := by
    rcases Nat.eq_zero_or_pos p.n with h | h
    · rw [h] at hk
      omega
    · exact h
  have m1 := place_mod hn a u v k
  have m2 := place_mod hn (inv a) (iu a u v) (iv a u v) (place p a u v k)
  rw [m1.1, m1.2] at m2
  have t := CM.turned_congr (a := inv a) (CM.emod_self_congr ((Move.mk a u v).takes ((k % p.n : Nat) : Int) ((k / p.n : Nat) : Int)).1 p.n) (CM.emod_self_congr ((Move.mk a u v).takes ((k % p.n : Nat) : Int) ((k / p.n : Nat) : Int)).2 p.n)
  have e1 := CM.emod_add_congr (c := iu a u v) t.1
  have e2 := CM.emod_add_congr (c := iv a u v) t.2
  have i := takes_inv ha u v ((k % p.n : Nat) : Int) ((k / p.n : Nat) : Int)
  have i1 := congrArg Prod.fst i
  have i2 := congrArg Prod.snd i
  refine same_place (n := p.n) ?_ ?_
  · refine Int.ofNat.inj (m2.1.trans (e1.trans ?_))
    show ((Move.mk (inv a) (iu a u v) (iv a u v)).takes ((Move.mk a u v).takes ((k % p.n : Nat) : Int) ((k / p.n : Nat) : Int)).1 ((Move.mk a u v).takes ((k % p.n : Nat) : Int) ((k / p.n : Nat) : Int)).2).1 % (p.n : Int) = _
    rw [i1]
    exact mod_self_small (Nat.mod_lt _ hn)
  · refine Int.ofNat.inj (m2.2.trans (e2.trans ?_))
    show ((Move.mk (inv a) (iu a u v) (iv a u v)).takes ((Move.mk a u v).takes ((k % p.n : Nat) : Int) ((k / p.n : Nat) : Int)).1 ((Move.mk a u v).takes ((k % p.n : Nat) : Int) ((k / p.n : Nat) : Int)).2).2 % (p.n : Int) = _
    rw [i2]
    exact mod_self_small (div_lt_of hk)
end MM

set_option Elab.async false
namespace AM
open Sa48 Sa48Neutral MM

/-- some symmetry takes i to k -/
def Rel (p : Pat) (i k : Nat) : Prop := ∃ (a : Nat) (u v : Int), a < 8 ∧ All p a u v ∧ place p a u v i = k
theorem Rel.refl {p : Pat} {k : Nat} (hk : k < p.n * p.n) : Rel p k k := ⟨0, 0, 0, by decide, All.id p, place_id hk⟩
theorem Rel.symm {p : Pat} {i k : Nat} (hi : i < p.n * p.n) : Rel p i k → Rel p k i := by
  rintro ⟨a, u, v, ha, h, rfl⟩
  exact ⟨inv a, iu a u v, iv a u v, (inv_turned a ha).1, h.inv ha, place_inv ha u v hi⟩
theorem Rel.trans {p : Pat} (hn : 0 < p.n) {i j k : Nat} : Rel p i j → Rel p j k → Rel p i k := by
  rintro ⟨a, u, v, ha, h, rfl⟩ ⟨a', u', v', ha', h', rfl⟩
  exact ⟨comp a' a, cu a' u v u', cv a' u v v', (comp_turned a' a ha' ha).1, h.comp ha ha' h', (place_comp hn ha ha' u v u' v' i).symm⟩

theorem mem_moves {n : Nat} {l : List Nat} {m : Nat × Int × Int} : m ∈ moves n l ↔ m.1 ∈ l ∧ m.2.1 ∈ rg n ∧ m.2.2 ∈ rg n := by
  unfold moves
  rw [List.mem_flatMap]
  constructor
  · rintro ⟨a, ha, h⟩
    rw [List.mem_flatMap] at h
    obtain ⟨u, hu, h⟩ := h
    rw [List.mem_map] at h
    obtain ⟨v, hv, rfl⟩ := h
    exact ⟨ha, hu, hv⟩
  · rintro ⟨h1, h2, h3⟩
    refine ⟨m.1, h1, List.mem_flatMap.mpr ⟨m.2.1, h2, List.mem_map.mpr ⟨m.2.2, h3, rfl⟩⟩⟩
theorem rg_mod {n : Nat} (hn : 0 < n) (u : Int) : u % (n : Int) ∈ rg n := CM.mem_rg.mpr ⟨Int.emod_nonneg _ (by omega), Int.emod_lt_of_pos _ (by omega)⟩
/-- a symmetry among those whose shift lies in the square -/
theorem rel_iff {p : Pat} (hn : 0 < p.n) {i k : Nat} : Rel p i k ↔ ∃ a, a < 8 ∧ ∃ u v : Nat, u < p.n ∧ v < p.n ∧ sym p a (u : Int) (v : Int) = true ∧ place p a (u : Int) (v : Int) i = k := by
  constructor
  · rintro ⟨a, u, v, ha, h, rfl⟩
    have hu := CM.mem_rg.mp (rg_mod hn u)
    have hv := CM.mem_rg.mp (rg_mod hn v)
    have eu : ((u % (p.n : Int)).toNat : Int) = u % (p.n : Int) := Int.toNat_of_nonneg hu.1
    have ev : ((v % (p.n : Int)).toNat : Int) = v % (p.n : Int) := Int.toNat_of_nonneg hv.1
    refine ⟨a, ha, (u % (p.n : Int)).toNat, (v % (p.n : Int)).toNat, by omega, by omega, ?_, ?_⟩
    · rw [eu, ev, sym_congr (CM.emod_self_congr u p.n) (CM.emod_self_congr v p.n)]
      exact (CM.sym_iff hn).mpr h
    · rw [eu, ev]
      exact place_congr i (CM.emod_self_congr u p.n) (CM.emod_self_congr v p.n)
  · rintro ⟨a, ha, u, v, _, _, hs, hp⟩
    exact ⟨a, u, v, ha, (CM.sym_iff hn).mp hs, hp⟩
def symsOf (p : Pat) : List (Nat × Int × Int) := (moves p.n (List.range 8)).filter fun m => sym p m.1 m.2.1 m.2.2
def hits (p : Pat) (k j : Nat) : Bool := (symsOf p).any fun m => place p m.1 m.2.1 m.2.2 j == k
theorem hits_iff {p : Pat} (hn : 0 < p.n) {k j : Nat} : hits p k j = true ↔ Rel p j k := by
  unfold hits symsOf
  rw [List.any_eq_true, rel_iff hn]
  constructor
  · rintro ⟨m, hm, he⟩
    rw [List.mem_filter, mem_moves, List.mem_range] at hm
    obtain ⟨⟨h1, h2, h3⟩, h4⟩ := hm
    have h2' := CM.mem_rg.mp h2
    have h3' := CM.mem_rg.mp h3
    have eu : ((m.2.1).toNat : Int) = m.2.1 := Int.toNat_of_nonneg h2'.1
    have ev : ((m.2.2).toNat : Int) = m.2.2 := Int.toNat_of_nonneg h3'.1
    refine ⟨m.1, h1, (m.2.1).toNat, (m.2.2).toNat, by omega, by omega, ?_, ?_⟩
    · rw [eu, ev]
      exact h4
    · rw [eu, ev]
      exact eq_of_beq he
  · rintro ⟨a, ha, u, v, hu, hv, hs, hp⟩
    refine ⟨(a, (u : Int), (v : Int)), ?_, beq_iff_eq.mpr hp⟩
    rw [List.mem_filter, mem_moves, List.mem_range]
    exact ⟨⟨ha, CM.mem_rg.mpr ⟨by show (0 : Int) ≤ (u : Int); omega, by show ((u : Int)) < _; omega⟩, CM.mem_rg.mpr ⟨by show (0 : Int) ≤ (v : Int); omega, by show ((v : Int)) < _; omega⟩⟩, hs⟩
/-- the least place that is taken to k -/
def lst (p : Pat) (k : Nat) : Nat := ((List.range (p.n * p.n)).find? (hits p k)).getD k
theorem alike_eq (p : Pat) : alike p = (List.range (p.n * p.n)).map (lst p) := rfl
structure Lst (p : Pat) (k j : Nat) : Prop where
  rel : Rel p j k
  le : j ≤ k
  no : ∀ i, i < j → ¬ Rel p i k
theorem lst_spec {p : Pat} {k : Nat} (hk : k < p.n * p.n) : Lst p k (lst p k) := by
  have hn : 0 < p.n := by
    rcases Nat.eq_zero_or_pos p.n with h | h
    · rw [h] at hk
      omega
    · exact h
  unfold lst
  cases e : (List.range (p.n * p.n)).find? (hits p k) with
  | none =>
    rw [List.find?_eq_none] at e
    exact absurd ((hits_iff hn).mpr (Rel.refl hk)) (e k (List.mem_range.mpr hk))
  | some j =>
    rw [List.find?_range_eq_some] at e
    obtain ⟨e1, e2, e3⟩ := e
    have hno : ∀ i, i < j → ¬ Rel p i k := fun i hi hr => by
      have h := e3 i hi
      rw [(hits_iff hn).mpr hr] at h
      cases h
    refine ⟨(hits_iff hn).mp e1, ?_, hno⟩
    show j ≤ k
    rcases Nat.lt_or_ge k j with h | h
    · exact absurd (Rel.refl hk) (hno k h)
    · exact h
theorem lst_lt {p : Pat} {k : Nat} (hk : k < p.n * p.n) : lst p k < p.n * p.n := Nat.lt_of_le_of_lt (lst_spec hk).le hk
theorem lst_le {p : Pat} {i k : Nat} (hk : k < p.n * p.n) (h : Rel p i k) : lst p k ≤ i := by
  rcases Nat.lt_or_ge i (lst p k) with g | g
  · exact absurd h ((lst_spec hk).no i g)
  · exact g
/-- what is taken to one another has one least -/
theorem lst_same {p : Pat} {i k : Nat} (hi : i < p.n * p.n) (hk : k < p.n * p.n) (h : Rel p i k) : lst p i = lst p k := by
  have hn : 0 < p.n := by
    rcases Nat.eq_zero_or_pos p.n with h | h
    · rw [h] at hk
      omega
    · exact h
  have h1 := lst_le hk ((lst_spec hi).rel.trans hn h)
  have h2 := lst_le hi ((lst_spec hk).rel.trans hn (h.symm hi))
  omega
theorem lst_idem {p : Pat} {k : Nat} (hk : k < p.n * p.n) : lst p (lst p k) = lst p k := lst_same (lst_lt hk) hk (lst_spec hk).rel
/-- j is its own least: those that it is taken to are those whose least it is -/
theorem rel_own {p : Pat} {j k : Nat} (hj : j < p.n * p.n) (hk : k < p.n * p.n) (h : lst p j = j) : Rel p j k ↔ lst p k = j := by
  constructor
  · intro r
    rw [← lst_same hj hk r, h]
  · rintro rfl
    exact (lst_spec hk).rel

/-! ### how many are their own least -/
def own (p : Pat) (j : Nat) : Nat := ((List.range j).filter fun i => lst p i == i).length
theorem own_yes {p : Pat} {j : Nat} (h : lst p j = j) : own p (j + 1) = own p j + 1 := by
  unfold own
  rw [List.range_succ, List.filter_append, List.length_append, List.filter_cons, if_pos (beq_iff_eq.mpr h)]
  rfl
theorem own_no {p : Pat} {j : Nat} (h : lst p j ≠ j) : own p (j + 1) = own p j := by
  unfold own
  rw [List.range_succ, List.filter_append, List.length_append, List.filter_cons, if_neg (by rw [beq_iff_eq]; exact h)]
  rfl
theorem own_le (p : Pat) (j : Nat) : own p j ≤ j := by
  have h := List.length_filter_le (fun i => lst p i == i) (List.range j)
  rw [List.length_range] at h
  exact h
theorem dups_eq (p : Pat) : ∀ j, j ≤ p.n * p.n → ((List.range j).map (lst p)).eraseDups = (List.range j).filter fun i => lst p i == i
  | 0, _ => rfl
  | j + 1, hj => by
    rw [List.range_succ, List.map_append, List.eraseDups_append, dups_eq p j (by omega), List.filter_append]
    congr 1
    show (([lst p j] : List Nat).removeAll _).eraseDups = _
    have hj' : j < p.n * p.n := by omega
    rw [List.filter_cons]
    by_cases h : lst p j = j
    · rw [if_pos (beq_iff_eq.mpr h), h]
      have : (([j] : List Nat).removeAll ((List.range j).map (lst p))) = [j] := by
        unfold List.removeAll
        rw [List.filter_cons, if_pos]
        · rfl
        · rw [Bool.not_eq_true', ← Bool.not_eq_true, List.elem_iff, List.mem_map]
          rintro ⟨i, hi, he⟩
          have hi' := List.mem_range.mp hi
          have := (lst_spec (p := p) (k := i) (by omega)).le
          omega
      rw [this]
      rfl
    · rw [if_neg (by rw [beq_iff_eq]; exact h)]
      have : (([lst p j] : List Nat).removeAll ((List.range j).map (lst p))) = [] := by
        unfold List.removeAll
        rw [List.filter_cons, if_neg]
        · rfl
        · rw [Bool.not_eq_true', Bool.not_eq_false, List.elem_iff, List.mem_map]
          exact ⟨lst p j, List.mem_range.mpr (by have := (lst_spec hj').le; omega), lst_idem hj'⟩
      rw [this]
      rfl
theorem dups_len (p : Pat) : (alike p).eraseDups.length = own p (p.n * p.n) := by
  rw [alike_eq, dups_eq p _ (Nat.le_refl _)]
  rfl

/-! ### a table over places, and one of its places changed -/
theorem set_range {α : Type} (N : Nat) (f : Nat → α) (t : Nat) (x : α) : ((List.range N).map f).set t x = (List.range N).map fun k => if k = t then x else f k := by
  refine List.ext_getElem (by simp) fun i h1 h2 => ?_
  rw [List.getElem_set]
  simp only [List.getElem_map, List.getElem_range]
  by_cases h : t = i
  · rw [if_pos h, if_pos h.symm]
  · rw [if_neg h, if_neg (fun z => h z.symm)]
theorem alike_spec {n : Nat} {c : List Int} (hn : 1 ≤ n ∧ n ≤ 6) : PySa48.alike (n : Int) c = ((own ⟨n, nats c⟩ (n * n) : Nat) : Int) :: ((List.range (n * n)).map fun k => ((lst ⟨n, nats c⟩ k : Nat) : Int)) := by
  show (if (n : Int).toNat < 1 ∨ 64 < (n : Int).toNat then [-2] else told (alike ⟨(n : Int).toNat, nats c⟩).eraseDups.length (alike ⟨(n : Int).toNat, nats c⟩)) = _
  rw [if_neg (by omega), Int.toNat_natCast, dups_len, alike_eq]
  unfold Sa48Neutral.told Sa48Neutral.ints
  rw [List.map_map]
  rfl
theorem alike_bad {n : Int} {c : List Int} (h : n < 1 ∨ 64 < n) : PySa48.alike n c = [-2] := by
  show (if n.toNat < 1 ∨ 64 < n.toNat then [-2] else _) = _
  rw [if_pos (by omega)]
end AM

set_option Elab.async false
namespace KM
open Sa48 Sa48Neutral MM

/-! ### which A some symmetry has -/
theorem has_iff {p : Pat} {a : Nat} : has p a = true ↔ ∃ u v : Nat, u < p.n ∧ v < p.n ∧ sym p a (u : Int) (v : Int) = true := by
  unfold has
  rw [List.any_eq_true]
  constructor
  · rintro ⟨u, hu, h⟩
    rw [List.any_eq_true] at h
    obtain ⟨v, hv, h⟩ := h
    have hu' := CM.mem_rg.mp hu
    have hv' := CM.mem_rg.mp hv
    refine ⟨u.toNat, v.toNat, by omega, by omega, ?_⟩
    rw [Int.toNat_of_nonneg hu'.1, Int.toNat_of_nonneg hv'.1]
    exact h
  · rintro ⟨u, v, hu, hv, h⟩
    exact ⟨u, CM.mem_rg.mpr ⟨by omega, by omega⟩, List.any_eq_true.mpr ⟨v, CM.mem_rg.mpr ⟨by omega, by omega⟩, h⟩⟩
theorem has_of {p : Pat} (hn : 0 < p.n) {a : Nat} {u v : Int} (h : sym p a u v = true) : has p a = true := by
  have hu := CM.mem_rg.mp (AM.rg_mod hn u)
  have hv := CM.mem_rg.mp (AM.rg_mod hn v)
  refine has_iff.mpr ⟨(u % (p.n : Int)).toNat, (v % (p.n : Int)).toNat, by omega, by omega, ?_⟩
  rw [Int.toNat_of_nonneg hu.1, Int.toNat_of_nonneg hv.1, sym_congr (CM.emod_self_congr u p.n) (CM.emod_self_congr v p.n)]
  exact h
/-- the shifts that a mirror may have -/
def shx (a : Nat) (k : Int) : Int := if a = 4 then k else if a = 5 then 0 else if a = 6 then k else k
def shy (a : Nat) (k : Int) : Int := if a = 4 then 0 else if a = 5 then k else if a = 6 then -k else k

theorem hasMirror_iff {p : Pat} {a : Nat} (ha : 4 ≤ a ∧ a < 8) : hasMirror p a = true ↔ ∃ k : Nat, k < p.n ∧ sym p a (shx a (k : Int)) (shy a (k : Int)) = true := by
  have e : ∀ u : Int, (if a = 4 then sym p 4 u 0 else if a = 5 then sym p 5 0 u else if a = 6 then sym p 6 u (-u) else sym p 7 u u) = sym p a (shx a u) (shy a u) := fun u => by
    have h : a = 4 ∨ a = 5 ∨ a = 6 ∨ a = 7 := by omega
    rcases h with rfl | rfl | rfl | rfl <;> rfl
  unfold hasMirror
  rw [List.any_eq_true]
  constructor
  · rintro ⟨u, hu, h⟩
    have hu' := CM.mem_rg.mp hu
    refine ⟨u.toNat, by omega, ?_⟩
    rw [Int.toNat_of_nonneg hu'.1, ← e]
    exact h
  · rintro ⟨k, hk, h⟩
    refine ⟨k, CM.mem_rg.mpr ⟨by omega, by omega⟩, ?_⟩
    rw [← e] at h
    exact h
theorem has_of_mirror {p : Pat} (hn : 0 < p.n) {a : Nat} (ha : 4 ≤ a ∧ a < 8) (h : hasMirror p a = true) : has p a = true := by
  obtain ⟨k, _, hs⟩ := (hasMirror_iff ha).mp h
  exact has_of hn hs
def mark (p : Pat) (a : Nat) : Nat := if has p a = false then 0 else if 4 ≤ a ∧ hasMirror p a = true then 2 else 1

/-! ### the mirror with this A through half of x, y -/
def isMT (p : Pat) (a : Nat) (x y : Int) : Bool := (x - (turned a x y).1) % 2 == 0 && ((y - (turned a x y).2) % 2 == 0 && sym p a ((x - (turned a x y).1) / 2) ((y - (turned a x y).2) / 2))
theorem isMT4 (p : Pat) (x y : Int) : isMT p 4 x y = sym p 4 x 0 := by
  unfold isMT
  show ((x - -x) % 2 == 0 && ((y - y) % 2 == 0 && sym p 4 ((x - -x) / 2) ((y - y) / 2))) = _
  have e1 : (x - -x) % 2 = 0 := by omega
  have e2 : (y - y) % 2 = 0 := by omega
  have e3 : (x - -x) / 2 = x := by omega
  have e4 : (y - y) / 2 = 0 := by omega
  rw [e1, e2, e3, e4]
  rfl
theorem isMT5 (p : Pat) (x y : Int) : isMT p 5 x y = sym p 5 0 y := by
  unfold isMT
  show ((x - x) % 2 == 0 && ((y - -y) % 2 == 0 && sym p 5 ((x - x) / 2) ((y - -y) / 2))) = _
  have e1 : (x - x) % 2 = 0 := by omega
  have e2 : (y - -y) % 2 = 0 := by omega
  have e3 : (x - x) / 2 = 0 := by omega
  have e4 : (y - -y) / 2 = y := by omega
  rw [e1, e2, e3, e4]
  rfl
theorem isMT6 (p : Pat) (x y : Int) : isMT p 6 x y = ((x - y) % 2 == 0 && ((y - x) % 2 == 0 && sym p 6 ((x - y) / 2) ((y - x) / 2))) := rfl
theorem isMT7 (p : Pat) (x y : Int) : isMT p 7 x y = ((x - -y) % 2 == 0 && ((y - -x) % 2 == 0 && sym p 7 ((x - -y) / 2) ((y - -x) / 2))) := rfl
theorem mod_add_self (x n : Int) : (x + n) % n = x % n := Int.add_emod_right x n
theorem mod_sub_self (x n : Int) : (x - n) % n = x % n := Int.sub_emod_right x n
/-- once more along y is as once more along x; twice is as never -/
theorem isMT_y {p : Pat} {a : Nat} (ha : 4 ≤ a ∧ a < 8) (x y : Int) : isMT p a x (y + (p.n : Int)) = isMT p a (x + (p.n : Int)) y ∨ isMT p a x (y + (p.n : Int)) = isMT p a x y := by
  have h : a = 4 ∨ a = 5 ∨ a = 6 ∨ a = 7 := by omega
  rcases h with rfl | rfl | rfl | rfl
  · exact .inr (by rw [isMT4, isMT4])
  · exact .inr (by rw [isMT5, isMT5]; exact sym_congr rfl (mod_add_self _ _))
  · refine .inl ?_
    rw [isMT6, isMT6]
    have e1 : (x - (y + (p.n : Int))) % 2 = (x + (p.n : Int) - y) % 2 := by omega
    have e2 : (y + (p.n : Int) - x) % 2 = (y - (x + (p.n : Int))) % 2 := by omega
    rw [e1, e2]
    by_cases h1 : (x + (p.n : Int) - y) % 2 = 0
    · have e3 : (x - (y + (p.n : Int))) / 2 = (x + (p.n : Int) - y) / 2 - (p.n : Int) := by omega
      have e4 : (y + (p.n : Int) - x) / 2 = (y - (x + (p.n : Int))) / 2 + (p.n : Int) := by omega
      rw [e3, e4, sym_congr (mod_sub_self _ _) (mod_add_self _ _)]
    · have e5 : ((x + (p.n : Int) - y) % 2 == 0) = false := beq_false_of_ne h1
      rw [e5]
      rfl
  · refine .inl ?_
    rw [isMT7, isMT7]
    have e1 : (x - -(y + (p.n : Int))) = (x + (p.n : Int) - -y) := by omega
    have e2 : (y + (p.n : Int) - -x) = (y - -(x + (p.n : Int))) := by omega
    rw [e1, e2]
theorem isMT_xy {p : Pat} {a : Nat} (ha : 4 ≤ a ∧ a < 8) (x y : Int) : isMT p a (x + (p.n : Int)) (y + (p.n : Int)) = isMT p a x y ∨ isMT p a (x + (p.n : Int)) (y + (p.n : Int)) = isMT p a (x + (p.n : Int)) y := by
  have h : a = 4 ∨ a = 5 ∨ a = 6 ∨ a = 7 := by omega
  rcases h with rfl | rfl | rfl | rfl
  · exact .inr (by rw [isMT4, isMT4])
  · exact .inr (by rw [isMT5, isMT5]; exact sym_congr rfl (mod_add_self _ _))
  · refine .inl ?_
    rw [isMT6, isMT6]
    have e1 : (x + (p.n : Int) - (y + (p.n : Int))) = x - y := by omega
    have e2 : (y + (p.n : Int) - (x + (p.n : Int))) = y - x := by omega
    rw [e1, e2]
  · refine .inl ?_
    rw [isMT7, isMT7]
    have e1 : (x + (p.n : Int) - -(y + (p.n : Int))) % 2 = (x - -y) % 2 := by omega
    have e2 : (y + (p.n : Int) - -(x + (p.n : Int))) % 2 = (y - -x) % 2 := by omega
    have e3 : (x + (p.n : Int) - -(y + (p.n : Int))) / 2 = (x - -y) / 2 + (p.n : Int) := by omega
    have e4 : (y + (p.n : Int) - -(x + (p.n : Int))) / 2 = (y - -x) / 2 + (p.n : Int) := by omega
    rw [e1, e2, e3, e4, sym_congr (mod_add_self _ _) (mod_add_self _ _)]
/-- each symmetry turned over is on a mirror, as the program asks it -/
def AllOn1 (p : Pat) : Prop := ∀ a, 4 ≤ a → a < 8 → ∀ u v : Nat, u < p.n → v < p.n → sym p a (u : Int) (v : Int) = true → isMT p a (u : Int) (v : Int) = true ∧ isMT p a ((u : Int) + (p.n : Int)) (v : Int) = true
theorem inner_eq (p : Pat) (a : Nat) (u v : Int) : (let w := twice ⟨a, u, v⟩
    let s := 2 * u - w.1
    let t := 2 * v - w.2
    s % 2 == 0 && (t % 2 == 0 && sym p a (s / 2) (t / 2))) = isMT p a u v := by
  have e1 : 2 * u - (twice ⟨a, u, v⟩).1 = u - (turned a u v).1 := by
    show 2 * u - ((turned a u v).1 + u) = _
    omega
  have e2 : 2 * v - (twice ⟨a, u, v⟩).2 = v - (turned a u v).2 := by
    show 2 * v - ((turned a u v).2 + v) = _
    omega
  dsimp only
  rw [e1, e2]
  rfl
theorem allOn_iff {p : Pat} (hn : 0 < p.n) : allOn p = true ↔ AllOn1 p := by
  have d : allOn p = true ↔ ∀ a, 4 ≤ a → a < 8 → ∀ u ∈ rg (2 * p.n), ∀ v ∈ rg (2 * p.n), sym p a u v = true → isMT p a u v = true := by
    unfold allOn
    rw [List.all_eq_true]
    constructor
    · intro h a h4 h8 u hu v hv hs
      have h1 := h a (by have h : a = 4 ∨ a = 5 ∨ a = 6 ∨ a = 7 := by omega
                         rcases h with rfl | rfl | rfl | rfl <;> simp)
      have h2 := List.all_eq_true.mp (List.all_eq_true.mp h1 u hu) v hv
      rw [inner_eq, hs] at h2
      exact h2
    · intro h a ha
      refine List.all_eq_true.mpr fun u hu => List.all_eq_true.mpr fun v hv => ?_
      rw [inner_eq]
      cases hs : sym p a u v with
      | false => rfl
      | true =>
        refine h a ?_ ?_ u hu v hv hs
        · simp at ha
          omega
        · simp at ha
          omega
  rw [d]
  have rg2 : ∀ u : Nat, u < p.n → (u : Int) ∈ rg (2 * p.n) := fun u hu => CM.mem_rg.mpr ⟨by omega, by omega⟩
  have rg3 : ∀ u : Nat, u < p.n → (u : Int) + (p.n : Int) ∈ rg (2 * p.n) := fun u hu => CM.mem_rg.mpr ⟨by omega, by omega⟩
  constructor
  · intro h a h4 h8 u v hu hv hs
    refine ⟨h a h4 h8 _ (rg2 u hu) _ (rg2 v hv) hs, h a h4 h8 _ (rg3 u hu) _ (rg2 v hv) ?_⟩
    rw [sym_congr (mod_add_self _ _) rfl]
    exact hs
  · intro h a h4 h8 u hu v hv hs
    have hu' := CM.mem_rg.mp hu
    have hv' := CM.mem_rg.mp hv
    have base : ∀ (k l : Nat) (ku lv : Int), k < p.n → l < p.n → ku % (p.n : Int) = (k : Int) % (p.n : Int) → lv % (p.n : Int) = (l : Int) % (p.n : Int) → sym p a ku lv = true → isMT p a (k : Int) (l : Int) = true ∧ isMT p a ((k : Int) + (p.n : Int)) (l : Int) = true := fun k l ku lv hk hl e1 e2 hs => by
      rw [sym_congr e1 e2] at hs
      exact h a h4 h8 k l hk hl hs
    by_cases cu : u < (p.n : Int)
    · by_cases cv : v < (p.n : Int)
      · have b := base u.toNat v.toNat u v (by omega) (by omega) (by rw [Int.toNat_of_nonneg hu'.1]) (by rw [Int.toNat_of_nonneg hv'.1]) hs
        rw [Int.toNat_of_nonneg hu'.1, Int.toNat_of_nonneg hv'.1] at b
        exact b.1
      · have ev : (((v - (p.n : Int)).toNat : Nat) : Int) = v - (p.n : Int) := Int.toNat_of_nonneg (by omega)
        have b := base u.toNat (v - (p.n : Int)).toNat u v (by omega) (by omega) (by rw [Int.toNat_of_nonneg hu'.1]) (by rw [ev, mod_sub_self]) hs
        rw [Int.toNat_of_nonneg hu'.1, ev] at b
        have z := isMT_y (p := p) ⟨h4, h8⟩ u (v - (p.n : Int))
        rw [Int.sub_add_cancel] at z
        rcases z with z | z
        · rw [z]; exact b.2
        · rw [z]; exact b.1
    · have eu : (((u - (p.n : Int)).toNat : Nat) : Int) = u - (p.n : Int) := Int.toNat_of_nonneg (by omega)
      by_cases cv : v < (p.n : Int)
      · have b := base (u - (p.n : Int)).toNat v.toNat u v (by omega) (by omega) (by rw [eu, mod_sub_self]) (by rw [Int.toNat_of_nonneg hv'.1]) hs
        rw [Int.toNat_of_nonneg hv'.1, eu, Int.sub_add_cancel] at b
        exact b.2
      · have ev : (((v - (p.n : Int)).toNat : Nat) : Int) = v - (p.n : Int) := Int.toNat_of_nonneg (by omega)
        have b := base (u - (p.n : Int)).toNat (v - (p.n : Int)).toNat u v (by omega) (by omega) (by rw [eu, mod_sub_self]) (by rw [ev, mod_sub_self]) hs
        rw [eu, ev] at b
        have z := isMT_xy (p := p) ⟨h4, h8⟩ (u - (p.n : Int)) (v - (p.n : Int))
        rw [Int.sub_add_cancel, Int.sub_add_cancel] at z
        rw [Int.sub_add_cancel] at b
        rcases z with z | z
        · rw [z]; exact b.1
        · rw [z]; exact b.2

/-! ### a turn by 1 and a mirror that leave one point -/
def TurnOn (p : Pat) : Prop := ∃ u v : Nat, u < p.n ∧ v < p.n ∧ sym p 1 (u : Int) (v : Int) = true ∧ ∃ a, 4 ≤ a ∧ a < 8 ∧ isMT p a ((u : Int) - (v : Int)) ((u : Int) + (v : Int)) = true
theorem isMT6' (p : Pat) (u v : Int) : isMT p 6 (u - v) (u + v) = sym p 6 (-v) v := by
  rw [isMT6]
  have e1 : (u - v - (u + v)) % 2 = 0 := by omega
  have e2 : (u + v - (u - v)) % 2 = 0 := by omega
  have e3 : (u - v - (u + v)) / 2 = -v := by omega
  have e4 : (u + v - (u - v)) / 2 = v := by omega
  rw [e1, e2, e3, e4]
  rfl
theorem isMT7' (p : Pat) (u v : Int) : isMT p 7 (u - v) (u + v) = sym p 7 u u := by
  rw [isMT7]
  have e1 : (u - v - -(u + v)) % 2 = 0 := by omega
  have e2 : (u + v - -(u - v)) % 2 = 0 := by omega
  have e3 : (u - v - -(u + v)) / 2 = u := by omega
  have e4 : (u + v - -(u - v)) / 2 = u := by omega
  rw [e1, e2, e3, e4]
  rfl
theorem turnOn_iff {p : Pat} : ((rg p.n).any fun u => (rg p.n).any fun v => sym p 1 u v && (sym p 4 (u - v) 0 || (sym p 5 0 (u + v) || (sym p 6 (-v) v || sym p 7 u u)))) = true ↔ TurnOn p := by
  have e : ∀ u v : Int, (sym p 4 (u - v) 0 || (sym p 5 0 (u + v) || (sym p 6 (-v) v || sym p 7 u u))) = true ↔ ∃ a, 4 ≤ a ∧ a < 8 ∧ isMT p a (u - v) (u + v) = true := fun u v => by
    rw [Bool.or_eq_true, Bool.or_eq_true, Bool.or_eq_true, ← isMT4 p (u - v) (u + v), ← isMT5 p (u - v) (u + v), ← isMT6' p u v, ← isMT7' p u v]
    constructor
    · rintro (h | h | h | h)
      · exact ⟨4, by omega, by omega, h⟩
      · exact ⟨5, by omega, by omega, h⟩
      · exact ⟨6, by omega, by omega, h⟩
      · exact ⟨7, by omega, by omega, h⟩
    · rintro ⟨a, h4, h8, h⟩
      have q : a = 4 ∨ a = 5 ∨ a = 6 ∨ a = 7 := by omega
      rcases q with rfl | rfl | rfl | rfl
      · exact .inl h
      · exact .inr (.inl h)
      · exact .inr (.inr (.inl h))
      · exact .inr (.inr (.inr h))
  rw [List.any_eq_true]
  constructor
  · rintro ⟨u, hu, h⟩
    rw [List.any_eq_true] at h
    obtain ⟨v, hv, h⟩ := h
    have hu' := CM.mem_rg.mp hu
    have hv' := CM.mem_rg.mp hv
    rw [Bool.and_eq_true, e] at h
    refine ⟨u.toNat, v.toNat, by omega, by omega, ?_⟩
    rw [Int.toNat_of_nonneg hu'.1, Int.toNat_of_nonneg hv'.1]
    exact h
  · rintro ⟨u, v, hu, hv, h⟩
    refine ⟨u, CM.mem_rg.mpr ⟨by omega, by omega⟩, List.any_eq_true.mpr ⟨v, CM.mem_rg.mpr ⟨by omega, by omega⟩, ?_⟩⟩
    rw [Bool.and_eq_true, e]
    exact h

/-! ### which of the twelve, by the marks -/
/-- the marks of the four that are turned over -/
def m4 (p : Pat) : List Int := [(mark p 4 : Int), (mark p 5 : Int), (mark p 6 : Int), (mark p 7 : Int)]
def most (p : Pat) : Nat := max (max (mark p 4) (mark p 5)) (max (mark p 6) (mark p 7))
def kind1 (p : Pat) (on : Bool) : Nat := if most p = 0 then 0 else if most p = 1 then 3 else if on = true then 1 else 2
def kind2 (p : Pat) (on : Bool) : Nat := if most p = 0 then 4 else if (m4 p).count 2 = 0 then 8 else if (m4 p).count 2 = 1 then 7 else if on = true then 5 else 6
def kind4 (p : Pat) (on : Bool) : Nat := if most p = 0 then 9 else if on = true then 10 else 11
def over (p : Pat) : Bool := [4, 5, 6, 7].any (has p)
def ms (p : Pat) : List Nat := [4, 5, 6, 7].filter (hasMirror p)
theorem table {h4 h5 h6 h7 r4 r5 r6 r7 : Bool} : (r4 = true → h4 = true) → (r5 = true → h5 = true) → (r6 = true → h6 = true) → (r7 = true → h7 = true) →
    let mk : Bool → Bool → Nat := fun h r => if h = false then 0 else if r = true then 2 else 1
    let mo := max (max (mk h4 r4) (mk h5 r5)) (max (mk h6 r6) (mk h7 r7))
    let ct := ([(mk h4 r4 : Int), (mk h5 r5 : Int), (mk h6 r6 : Int), (mk h7 r7 : Int)] : List Int).count 2
    let nm := r4.toNat + r5.toNat + r6.toNat + r7.toNat
    ((h4 || (h5 || (h6 || h7))) = false ↔ mo = 0) ∧ ct = nm ∧ (mo = 2 ↔ nm ≠ 0) ∧ mo ≤ 2 := by
  revert h4 h5 h6 h7 r4 r5 r6 r7
  decide
theorem mark_over {p : Pat} {a : Nat} (ha : 4 ≤ a) : mark p a = if has p a = false then 0 else if hasMirror p a = true then 2 else 1 := by
  unfold mark
  simp only [ha, true_and]
theorem ms_len (p : Pat) : (ms p).length = (hasMirror p 4).toNat + (hasMirror p 5).toNat + (hasMirror p 6).toNat + (hasMirror p 7).toNat := by
  unfold ms
  cases h4 : hasMirror p 4 <;> cases h5 : hasMirror p 5 <;> cases h6 : hasMirror p 6 <;> cases h7 : hasMirror p 7 <;> simp [List.filter, h4, h5, h6, h7]
theorem over_eq (p : Pat) : over p = (has p 4 || (has p 5 || (has p 6 || has p 7))) := by
  unfold over
  simp [List.any]
theorem marks_say {p : Pat} (hn : 0 < p.n) : (over p = false ↔ most p = 0) ∧ (m4 p).count 2 = (ms p).length ∧ (most p = 2 ↔ (ms p).length ≠ 0) ∧ most p ≤ 2 := by
  have t := table (h4 := has p 4) (h5 := has p 5) (h6 := has p 6) (h7 := has p 7) (r4 := hasMirror p 4) (r5 := hasMirror p 5) (r6 := hasMirror p 6) (r7 := hasMirror p 7)
    (has_of_mirror hn ⟨by omega, by omega⟩) (has_of_mirror hn ⟨by omega, by omega⟩) (has_of_mirror hn ⟨by omega, by omega⟩) (has_of_mirror hn ⟨by omega, by omega⟩)
  rw [over_eq, ms_len]
  unfold most m4
  rw [mark_over (a := 4) (by omega), mark_over (a := 5) (by omega), mark_over (a := 6) (by omega), mark_over (a := 7) (by omega)]
  exact t
theorem kind_eq {p : Pat} (hn : 0 < p.n) {on on4 : Bool} (h1 : on = true ↔ AllOn1 p) (h4 : on4 = true ↔ TurnOn p) :
    Sa48Neutral.kind p = if has p 1 = true then kind4 p on4 else if has p 2 = true then kind2 p on else kind1 p on := by
  have m := marks_say hn
  have ho : on = allOn p := by
    rw [Bool.eq_iff_iff, h1, allOn_iff hn]
  have ho4 : on4 = ((rg p.n).any fun u => (rg p.n).any fun v => sym p 1 u v && (sym p 4 (u - v) 0 || (sym p 5 0 (u + v) || (sym p 6 (-v) v || sym p 7 u u)))) := by
    rw [Bool.eq_iff_iff, h4, turnOn_iff]
  have em : (ms p).isEmpty = true ↔ (ms p).length = 0 := by
    rw [List.isEmpty_iff, List.length_eq_zero_iff]
  show (if has p 1 = true then (if over p = false then 9 else if ((rg p.n).any fun u => (rg p.n).any fun v => sym p 1 u v && (sym p 4 (u - v) 0 || (sym p 5 0 (u + v) || (sym p 6 (-v) v || sym p 7 u u)))) = true then 10 else 11)
    else if has p 2 = true then (if over p = false then 4 else if (ms p).isEmpty = true then 8 else if (ms p).length = 1 then 7 else if allOn p = true then 5 else 6)
    else if over p = false then 0 else if (ms p).isEmpty = true then 3 else if allOn p = true then 1 else 2) = _
  rw [← ho, ← ho4]
  unfold kind4 kind2 kind1
  rw [m.2.1]
  have c1 := m.1
  have c2 := m.2.2.1
  have c3 := m.2.2.2
  have i0 : (over p = false) = (most p = 0) := propext c1
  have ie : ((ms p).isEmpty = true) = ((ms p).length = 0) := propext em
  simp only [i0, ie]
  by_cases h0 : most p = 0
  · simp only [h0, if_true]
  · have i1 : ((ms p).length = 0) = (most p = 1) := propext (by omega)
    simp only [h0, i1, if_false]
theorem kind_spec {n : Nat} {c : List Int} (hn : 1 ≤ n ∧ n ≤ 6) : PySa48.kind (n : Int) c = ((Sa48Neutral.kind ⟨n, nats c⟩ : Nat) : Int) :: ((List.range 8).map fun a => ((mark ⟨n, nats c⟩ a : Nat) : Int)) := by
  show (if (n : Int).toNat < 1 ∨ 64 < (n : Int).toNat then [-2] else told (Sa48Neutral.kind ⟨(n : Int).toNat, nats c⟩) ((List.range 8).map fun a => mark ⟨(n : Int).toNat, nats c⟩ a)) = _
  rw [if_neg (by omega), Int.toNat_natCast]
  unfold Sa48Neutral.told Sa48Neutral.ints
  rw [List.map_map]
  rfl
theorem kind_bad {n : Int} {c : List Int} (h : n < 1 ∨ 64 < n) : PySa48.kind n c = [-2] := by
  show (if n.toNat < 1 ∨ 64 < n.toNat then [-2] else _) = _
  rw [if_pos (by omega)]
end KM

namespace CH
open PySem PySem.Spec PyProof.Rows L2 Evl
open PySem.W (Codec)
/-! ### the text -/
def topS (i : Nat) : Stmt := PySem.Challenge.pw_planerepeats_s02_kind.main.body.getD i (.Pass ⟨0, 0, 0, 0⟩)
/-! def turned: slots 0 way 1 x 2 y 3 images; calls none; built-ins none -/
abbrev s_turned : Stmt := topS 1
theorem sc_turned : FnScope ["way", "x", "y", "images"] ["way", "x", "y"] (defScope s_turned) := ⟨rfl, rfl, rfl, by decide +kernel, rfl, by decide +kernel, by decide +kernel⟩
/-! def taken: slots 0 n 1 way 2 a 3 b 4 place 5 image; calls turned; built-ins none -/
abbrev s_taken : Stmt := topS 2
theorem sc_taken : FnScope ["n", "way", "a", "b", "place", "image"] ["n", "way", "a", "b", "place"] (defScope s_taken) := ⟨rfl, rfl, rfl, by decide +kernel, rfl, by decide +kernel, by decide +kernel⟩
/-! def is_symmetry: slots 0 n 1 p 2 way 3 a 4 b 5 place; calls taken; built-ins range -/
abbrev s_is_symmetry : Stmt := topS 3
theorem sc_is_symmetry : FnScope ["n", "p", "way", "a", "b", "place"] ["n", "p", "way", "a", "b"] (defScope s_is_symmetry) := ⟨rfl, rfl, rfl, by decide +kernel, rfl, by decide +kernel, by decide +kernel⟩
/-! def movements_by: slots 0 n 1 what 2 found 3 way 4 b 5 a; calls none; built-ins range -/
abbrev s_movements_by : Stmt := topS 4
theorem sc_movements_by : FnScope ["n", "what", "found", "way", "b", "a"] ["n", "what"] (defScope s_movements_by) := ⟨rfl, rfl, rfl, by decide +kernel, rfl, by decide +kernel, by decide +kernel⟩
/-! def symmetries: slots 0 n 1 p 2 movement; calls movements_by, is_symmetry; built-ins none -/
abbrev s_symmetries : Stmt := topS 5
theorem sc_symmetries : FnScope ["n", "p", "movement"] ["n", "p"] (defScope s_symmetries) := ⟨rfl, rfl, rfl, by decide +kernel, rfl, by decide +kernel, by decide +kernel⟩
/-! def has_mirror: slots 0 n 1 p 2 way 3 k 4 shift; calls is_symmetry; built-ins range -/
abbrev s_has_mirror : Stmt := topS 6
theorem sc_has_mirror : FnScope ["n", "p", "way", "k", "shift"] ["n", "p", "way"] (defScope s_has_mirror) := ⟨rfl, rfl, rfl, by decide +kernel, rfl, by decide +kernel, by decide +kernel⟩
/-! def is_mirror_through: slots 0 n 1 p 2 way 3 x 4 y 5 image 6 a 7 b; calls is_symmetry, turned; built-ins none -/
abbrev s_is_mirror_through : Stmt := topS 7
theorem sc_is_mirror_through : FnScope ["n", "p", "way", "x", "y", "image", "a", "b"] ["n", "p", "way", "x", "y"] (defScope s_is_mirror_through) := ⟨rfl, rfl, rfl, by decide +kernel, rfl, by decide +kernel, by decide +kernel⟩
/-! def kind: slots 0 n 1 p 2 found 3 marks 4 answer; calls kind_of_turn_4, kind_of_turn_2, kind_of_turn_1, marks_of_ways, symmetries, is_side; built-ins none -/
abbrev s_kind : Stmt := topS 9
theorem sc_kind : FnScope ["n", "p", "found", "marks", "answer"] ["n", "p"] (defScope s_kind) := ⟨rfl, rfl, rfl, by decide +kernel, rfl, by decide +kernel, by decide +kernel⟩
/-! def is_side: slots 0 n; calls none; built-ins none -/
abbrev s_is_side : Stmt := topS 10
theorem sc_is_side : FnScope ["n"] ["n"] (defScope s_is_side) := ⟨rfl, rfl, rfl, by decide +kernel, rfl, by decide +kernel, by decide +kernel⟩
/-! def marks_of_ways: slots 0 n 1 p 2 found 3 ways 4 marks 5 way 6 movement; calls has_mirror; built-ins range -/
abbrev s_marks_of_ways : Stmt := topS 11
theorem sc_marks_of_ways : FnScope ["n", "p", "found", "ways", "marks", "way", "movement"] ["n", "p", "found"] (defScope s_marks_of_ways) := ⟨rfl, rfl, rfl, by decide +kernel, rfl, by decide +kernel, by decide +kernel⟩
/-! def kind_of_turn_1: slots 0 n 1 p 2 found 3 marks 4 most; calls all_are_on_mirrors; built-ins max -/
abbrev s_kind_of_turn_1 : Stmt := topS 12
theorem sc_kind_of_turn_1 : FnScope ["n", "p", "found", "marks", "most"] ["n", "p", "found", "marks"] (defScope s_kind_of_turn_1) := ⟨rfl, rfl, rfl, by decide +kernel, rfl, by decide +kernel, by decide +kernel⟩
/-! def kind_of_turn_2: slots 0 n 1 p 2 found 3 marks 4 mirrored; calls all_are_on_mirrors; built-ins max -/
abbrev s_kind_of_turn_2 : Stmt := topS 13
theorem sc_kind_of_turn_2 : FnScope ["n", "p", "found", "marks", "mirrored"] ["n", "p", "found", "marks"] (defScope s_kind_of_turn_2) := ⟨rfl, rfl, rfl, by decide +kernel, rfl, by decide +kernel, by decide +kernel⟩
/-! def kind_of_turn_4: slots 0 n 1 p 2 found 3 marks; calls some_turn_is_on_mirror; built-ins max -/
abbrev s_kind_of_turn_4 : Stmt := topS 14
theorem sc_kind_of_turn_4 : FnScope ["n", "p", "found", "marks"] ["n", "p", "found", "marks"] (defScope s_kind_of_turn_4) := ⟨rfl, rfl, rfl, by decide +kernel, rfl, by decide +kernel, by decide +kernel⟩
/-! def all_are_on_mirrors: slots 0 n 1 p 2 found 3 over 4 way 5 a 6 b 7 longer 8 movement; calls is_mirror_through; built-ins none -/
abbrev s_all_are_on_mirrors : Stmt := topS 15
theorem sc_all_are_on_mirrors : FnScope ["n", "p", "found", "over", "way", "a", "b", "longer", "movement"] ["n", "p", "found"] (defScope s_all_are_on_mirrors) := ⟨rfl, rfl, rfl, by decide +kernel, rfl, by decide +kernel, by decide +kernel⟩
/-! def some_turn_is_on_mirror: slots 0 n 1 p 2 found 3 turns 4 turn 5 a 6 b 7 way 8 movement; calls is_mirror_through; built-ins range -/
abbrev s_some_turn_is_on_mirror : Stmt := topS 16
theorem sc_some_turn_is_on_mirror : FnScope ["n", "p", "found", "turns", "turn", "a", "b", "way", "movement"] ["n", "p", "found"] (defScope s_some_turn_is_on_mirror) := ⟨rfl, rfl, rfl, by decide +kernel, rfl, by decide +kernel, by decide +kernel⟩
/-! ### what is known of a request -/
def gt (c : List Int) (k : Nat) : Int := c.getD k 0
structure Rq (n : Nat) (c : List Int) : Prop where
  lo : 1 ≤ n
  hi : n ≤ 6
  len : c.length = n * n
  nn : ∀ z ∈ c, 0 ≤ z
abbrev Pt (n : Nat) (c : List Int) : Sa48.Pat := ⟨n, Sa48Neutral.nats c⟩
/-- where a movement takes a place of the square -/
def pl (n w : Nat) (a b : Int) (k : Nat) : Nat := Sa48Neutral.place ⟨n, []⟩ w a b k
theorem pl_eq (n w : Nat) (a b : Int) (k : Nat) (c : List Int) : Sa48Neutral.place (Pt n c) w a b k = pl n w a b k := rfl
theorem pl_lt {n : Nat} (hn : 1 ≤ n) (w : Nat) (a b : Int) (k : Nat) : pl n w a b k < n * n := MM.place_lt (p := ⟨n, []⟩) (by show 0 < n; omega) w a b k
theorem at_int {c : List Int} {i : Int} {k : Nat} (e : i = (k : Int)) (hk : k < c.length) : atI (c.map V.int) i = some (.int (gt c k)) := by
  rw [e]
  refine atI_nat ?_
  rw [List.getElem?_map, List.getElem?_eq_getElem hk]
  unfold gt
  rw [List.getD_eq_getElem?_getD, List.getElem?_eq_getElem hk]
  rfl
theorem getD_nats : ∀ (c : List Int) (k : Nat), (Sa48Neutral.nats c).getD k 0 = (gt c k).toNat
  | [], k => by
    show ([] : List Nat).getD k 0 = (([] : List Int).getD k 0).toNat
    rw [List.getD_nil, List.getD_nil]
    rfl
  | z :: c, 0 => rfl
  | z :: c, k + 1 => by
    have ih := getD_nats c k
    unfold gt at ih ⊢
    rw [List.getD_cons_succ, ← ih]
    exact List.getD_cons_succ
theorem gt_nn {c : List Int} (hc : ∀ z ∈ c, 0 ≤ z) (k : Nat) : 0 ≤ gt c k := by
  unfold gt
  rw [List.getD_eq_getElem?_getD]
  cases e : c[k]? with
  | none => exact Int.le_refl 0
  | some z => exact hc z (List.mem_of_getElem? e)
/-- a symmetry, by the colours of the square's places -/
theorem sym_all {n : Nat} {c : List Int} (R : Rq n c) {w : Nat} {a b : Int} : Sa48Neutral.sym (Pt n c) w a b = true ↔ ∀ k, k < n * n → gt c k = gt c (pl n w a b k) := by
  have n1 := R.lo
  have key : ∀ k, k < n * n → ((Pt n c).at_ ((Sa48.Move.mk w a b).takes ((k % n : Nat) : Int) ((k / n : Nat) : Int)).1 ((Sa48.Move.mk w a b).takes ((k % n : Nat) : Int) ((k / n : Nat) : Int)).2 = (Pt n c).at_ ((k % n : Nat) : Int) ((k / n : Nat) : Int) ↔ gt c k = gt c (pl n w a b k)) := fun k hk => by
    have h1 : (Pt n c).at_ ((Sa48.Move.mk w a b).takes ((k % n : Nat) : Int) ((k / n : Nat) : Int)).1 ((Sa48.Move.mk w a b).takes ((k % n : Nat) : Int) ((k / n : Nat) : Int)).2 = (gt c (pl n w a b k)).toNat := by
      rw [← getD_nats]
      rfl
    have h2 : (Pt n c).at_ ((k % n : Nat) : Int) ((k / n : Nat) : Int) = (gt c k).toNat := by
      rw [← getD_nats]
      unfold Sa48.Pat.at_
      dsimp only
      rw [MM.mod_self_small (Nat.mod_lt _ (by omega)), MM.mod_self_small (MM.div_lt_of hk), Int.toNat_natCast, Int.toNat_natCast, Nat.mul_comm, Nat.div_add_mod]
    rw [h1, h2]
    have g1 := gt_nn R.nn k
    have g2 := gt_nn R.nn (pl n w a b k)
    omega
  unfold Sa48Neutral.sym
  rw [List.all_eq_true]
  constructor
  · intro h k hk
    refine (key k hk).mp ?_
    have hx : ((k % n : Nat) : Int) ∈ Sa48Neutral.rg n := CM.mem_rg.mpr ⟨Int.natCast_nonneg _, Int.ofNat_lt.mpr (Nat.mod_lt k (by omega))⟩
    have hy : ((k / n : Nat) : Int) ∈ Sa48Neutral.rg n := CM.mem_rg.mpr ⟨Int.natCast_nonneg _, Int.ofNat_lt.mpr (MM.div_lt_of hk)⟩
    exact eq_of_beq (List.all_eq_true.mp (h _ hx) _ hy)
  · intro h x hx
    refine List.all_eq_true.mpr fun y hy => ?_
    have hx' := CM.mem_rg.mp hx
    have hy' := CM.mem_rg.mp hy
    have hx2 : x < (n : Int) := hx'.2
    have hy2 : y < (n : Int) := hy'.2
    have hk : y.toNat * n + x.toNat < n * n := MM.ix_lt (by omega) (by omega)
    have z := (key _ hk).mpr (h _ hk)
    rw [MM.ix_mod (by omega), MM.ix_div (by omega), Int.toNat_of_nonneg hx'.1, Int.toNat_of_nonneg hy'.1] at z
    exact beq_iff_eq.mpr z
/-! ### tuples made on the way -/
def Tups (H : Hp) : List V → List (List V) → Prop
  | [], [] => True
  | v :: vs, xs :: xss => (∃ a, v = .ref a ∧ H a = some (.tup xs)) ∧ Tups H vs xss
  | _, _ => False
theorem Tups.mono {H H' : Hp} (e : Ex H H') : ∀ {vs : List V} {xss : List (List V)}, Tups H vs xss → Tups H' vs xss
  | [], [], _ => trivial
  | _ :: _, _ :: _, ⟨⟨a, h1, h2⟩, h3⟩ => ⟨⟨a, h1, e _ _ h2⟩, Tups.mono e h3⟩
theorem Tups.upd {H : Hp} {l : Addr} {ys : List V} {o : HO} (hl : H l = some (.lst ys)) : ∀ {vs : List V} {xss : List (List V)}, Tups H vs xss → Tups (upd H l o) vs xss
  | [], [], _ => trivial
  | _ :: _, _ :: _, ⟨⟨a, h1, h2⟩, h3⟩ => ⟨⟨a, h1, by
      rw [upd_ne (fun z => by rw [z, hl] at h2; cases h2)]
      exact h2⟩, Tups.upd hl h3⟩
theorem Tups.app {H : Hp} {p : Addr} {zs : List V} (hp : H p = some (.tup zs)) : ∀ {vs : List V} {xss : List (List V)}, Tups H vs xss → Tups H (vs ++ [.ref p]) (xss ++ [zs])
  | [], [], _ => ⟨⟨p, rfl, hp⟩, trivial⟩
  | _ :: _, _ :: _, ⟨h1, h3⟩ => ⟨h1, Tups.app hp h3⟩
theorem Tups.len {H : Hp} : ∀ {vs : List V} {xss : List (List V)}, Tups H vs xss → vs.length = xss.length
  | [], [], _ => rfl
  | _ :: _, _ :: _, ⟨_, h3⟩ => congrArg (· + 1) h3.len
theorem Tups.get {H : Hp} : ∀ {vs : List V} {xss : List (List V)}, Tups H vs xss → ∀ {i : Nat} {x : V}, vs[i]? = some x → ∃ xs a, xss[i]? = some xs ∧ x = .ref a ∧ H a = some (.tup xs)
  | [], [], _, i, x, h => by simp at h
  | v :: vs, xs :: xss, ⟨⟨a, h1, h2⟩, h3⟩, 0, x, h => by
    have e : v = x := Option.some.inj h
    exact ⟨xs, a, rfl, e.symm.trans h1, h2⟩
  | v :: vs, xs :: xss, ⟨_, h3⟩, i + 1, x, h => by
    obtain ⟨zs, a, h1, h2, h4⟩ := h3.get (i := i) h
    exact ⟨zs, a, h1, h2, h4⟩
theorem Tups.at {H : Hp} : ∀ {vs : List V} {xss : List (List V)}, Tups H vs xss → ∀ {i : Nat} {xs : List V}, xss[i]? = some xs → ∃ a, vs[i]? = some (.ref a) ∧ H a = some (.tup xs)
  | [], [], _, i, x, h => by simp at h
  | v :: vs, xs :: xss, ⟨⟨a, h1, h2⟩, h3⟩, 0, x, h => by
    have e : xs = x := Option.some.inj h
    exact ⟨a, congrArg some h1, e ▸ h2⟩
  | v :: vs, xs :: xss, ⟨_, h3⟩, i + 1, x, h => by
    obtain ⟨a, h2, h4⟩ := h3.at (i := i) h
    exact ⟨a, h2, h4⟩
section
variable {K : PySem.W.Frag} {σ : L2.St} {H H' : Hp} {ta tb te tc : TE} {D : Ends} {tz : TS}
def EvAU (ta : TA) (σ : L2.St) (H : Hp) (xss : List (List V)) : Prop := ∀ H1, Ex H H1 → ∀ Q : List V → Hp → Prop, (∀ vs H2, Ex H1 H2 → Tups H2 vs xss → Q vs H2) → ta σ H1 Q
theorem eau_nil : EvAU tNil σ H [] := fun H1 _ _ q => q [] H1 (Ex.refl H1) trivial
theorem eau_cons {tr : TA} {xs : List V} {xss : List (List V)} (h : EvU te σ H xs) (hr : EvAU tr σ H xss) : EvAU (tCons te tr) σ H (xs :: xss) := fun H1 e _ q =>
  h H1 e _ fun p H2 _ e2 h2 => hr H2 (e.trans e2) _ fun vs H3 e3 h3 => q (.ref p :: vs) H3 (e2.trans e3) ⟨⟨p, rfl, e3 _ _ h2⟩, h3⟩
/-- a tuple that stands somewhere -/
def EvR (te : TE) (σ : L2.St) (H : Hp) (xs : List V) : Prop := ∀ H1, Ex H H1 → ∀ Q : VK, (∀ p H2, Ex H1 H2 → H2 p = some (.tup xs) → Q (.ref p) H2) → te σ H1 Q
/-- a tuple of tuples, and one of them -/
theorem er_ix {ta : TA} {xss : List (List V)} {xs : List V} {j : Nat} {i : Int} (h : EvAU ta σ H xss) (hl : xss.length ≤ 100000) (hi : Ev tb σ H (.int i)) (e : i = (j : Int)) (hx : xss[j]? = some xs) : EvR (tOp (rIxT K) (tTup ta) tb) σ H xs := fun H1 e1 Q q =>
  h H1 e1 _ fun vs H2 e2 h2 => ⟨sz_of (by rw [h2.len]; exact hl), fun p hp => hi (upd H2 p (.tup vs)) ((e1.trans e2).trans (Ex.new hp)) _ fun H3 e3 => by
    obtain ⟨a, h3, h4⟩ := (h2.mono ((Ex.new (o := .tup vs) hp).trans e3)).at hx
    refine ⟨p, vs, i, .ref a, rfl, rfl, st_of (e3 _ _ upd_same), ?_, q a H3 ((e2.trans (Ex.new hp)).trans e3) h4⟩
    rw [e]
    exact atI_nat h3⟩
/-- the first operand a new tuple -/
theorem ev_opU1 {xs : List V} {y z : V} {r : R2} (ha : EvU ta σ H xs) (hb : ∀ H1, Ex H H1 → Ev tb σ H1 y) (hr : ∀ p H1, H1 p = some (.tup xs) → Ex H H1 → RV r (.ref p) y H1 z) : Ev (tOp r ta tb) σ H z := by
  intro H1 e Q q
  refine ha H1 e _ fun p H2 _ e2 hp => ?_
  refine hb H2 (e.trans e2) H2 (Ex.refl H2) _ fun H3 e3 => ?_
  have e4 := e2.trans e3
  exact hr p H3 (e3 p _ hp) (e.trans e4) H3 (Ex.refl H3) Q fun H4 e5 => q H4 (e4.trans e5)
theorem q_tups {ta : TA} {xss : List (List V)} {i : Nat} (h : EvAU ta σ H xss) (hl : xss.length ≤ 100000) (k : ∀ p vs H1, Ex H H1 → H1 p = some (.tup vs) → Tups H1 vs xss → tz D (σ.set i (some (.ref p))) H1) : tSeq (tAsg (tTup ta) (gName i)) tz D σ H :=
  h H (Ex.refl H) _ fun vs H2 e2 h2 => ⟨sz_of (by rw [h2.len]; exact hl), fun p hp => k p vs _ (e2.trans (Ex.new hp)) upd_same (h2.mono (Ex.new hp))⟩
theorem er_at {xss : List (List V)} {xs vs : List V} {p : Addr} {j : Nat} {i : Int} (hv : Ev ta σ H (.ref p)) (hp : H p = some (.tup vs)) (ht : Tups H vs xss) (hi : Ev tb σ H (.int i)) (e : i = (j : Int)) (hx : xss[j]? = some xs) : EvR (tOp (rIxT K) ta tb) σ H xs := fun H1 e1 Q q =>
  hv H1 e1 _ fun H2 e2 => hi H2 (e1.trans e2) _ fun H3 e3 => by
    have e4 := (e1.trans e2).trans e3
    obtain ⟨a, h3, h4⟩ := (ht.mono e4).at hx
    refine ⟨p, vs, i, .ref a, rfl, rfl, st_of (e4 _ _ hp), ?_, q a H3 (e2.trans e3) h4⟩
    rw [e]
    exact atI_nat h3
theorem q_asgR {xs : List V} {i : Nat} (h : EvR te σ H xs) (k : ∀ p H1, Ex H H1 → H1 p = some (.tup xs) → tz D (σ.set i (some (.ref p))) H1) : tSeq (tAsg te (gName i)) tz D σ H := h H (Ex.refl H) _ fun p H1 e1 h1 => k p H1 e1 h1
theorem s_retR {xs : List V} (h : EvR te σ H xs) (k : ∀ p H1, Ex H H1 → H1 p = some (.tup xs) → D.rt (.ref p) H1) : tRet te D σ H := h H (Ex.refl H) _ k
def SpR (sp : Sp) (vs : List V) (H : Hp) (xs : List V) : Prop := ∀ H1, Ex H H1 → ∀ Q : VK, (∀ p H2, Ex H1 H2 → H2 p = some (.tup xs) → Q (.ref p) H2) → ∀ E : XK, sp vs H1 Q E
theorem er_call {sp : Sp} {dvs vs xs : List V} {E : XK} {ta : TA} (h : EvA ta σ H vs) (hs : SpR sp (vs ++ dvs) H xs) : EvR (tCall sp dvs E ta) σ H xs := fun H1 e Q q =>
  h H1 e _ fun H2 e2 => hs H2 (e.trans e2) Q (fun p H3 e3 h3 => q p H3 (e2.trans e3) h3) E
/-- a <= b <= c -/
theorem ev_chain {f g : Int → Int → Bool} {i j k : Int} (ha : Ev ta σ H (.int i)) (hb : Ev tb σ H (.int j)) (hc : Ev tc σ H (.int k)) : Ev (tChain (rI0 fun i j => .bl (f i j)) (rI0 fun i j => .bl (g i j)) ta tb tc) σ H (.bl (f i j && g j k)) := fun H1 e Q q =>
  ha H1 e _ fun H2 e2 => hb H2 (e.trans e2) _ fun H3 e3 => ⟨i, j, rfl, rfl, f i j, rfl, by
    cases hf : f i j with
    | true =>
      rw [if_pos rfl]
      exact hc H3 ((e.trans e2).trans e3) _ fun H4 e4 => ⟨j, k, rfl, rfl, by
        have z := q H4 ((e2.trans e3).trans e4)
        rw [hf] at z
        exact z⟩
    | false =>
      rw [if_neg (by decide)]
      have z := q H3 (e2.trans e3)
      rw [hf] at z
      exact z⟩
/-- [x, ..] * k -/
theorem el_rep {xs : List V} {k : Int} (ha : EvL ta σ H xs) (hb : Ev tb σ H (.int k)) (hk : 0 ≤ k ∧ k ≤ 100000) (hx : xs.length * k.toNat ≤ 100000) : EvL (tOp rRep ta tb) σ H (List.replicate k.toNat xs).flatten := fun H1 e Q q =>
  ha H1 e _ fun l H2 n2 e2 h2 => hb H2 (e.trans e2) _ fun H3 e3 => ⟨l, k, xs, rfl, rfl, e3 _ _ h2, by omega, by omega, sz_of hx, fun p hp => q p _ (fresh_back (e2.trans e3) hp) ((e2.trans e3).trans (Ex.new hp)) upd_same⟩
/-- [x, ..] + ys -/
theorem el_cat {xs ys : List V} {b : Addr} (ha : EvL ta σ H xs) (hb : Ev tb σ H (.ref b)) (h : H b = some (.lst ys)) (hz : xs.length + ys.length ≤ 100000) : EvL (tOp rCat ta tb) σ H (xs ++ ys) := fun H1 e Q q =>
  ha H1 e _ fun l H2 n2 e2 h2 => hb H2 (e.trans e2) _ fun H3 e3 => ⟨l, b, xs, ys, rfl, rfl, e3 _ _ h2, ((e.trans e2).trans e3) _ _ h, sz_of hz, fun p hp => q p _ (fresh_back (e2.trans e3) hp) ((e2.trans e3).trans (Ex.new hp)) upd_same⟩
/-- x is None -/
theorem ev_isN {x : V} (ha : Ev ta σ H x) : Ev (tOp (fun x y H Q => y = .non ∧ Q (.bl (decide (x = .non))) H) ta (tC .non)) σ H (.bl (decide (x = .non))) := fun H1 e Q q =>
  ha H1 e _ fun H2 e2 => ⟨rfl, q H2 e2⟩
end
/-- what a caller knows of a def -/
def Cal (P : Program) (w : World) (K : PySem.W.Frag) (mg : Str → Option Value) (base : Heap) (k : Nat) (x : Str) (ps : List Str) (sp : Sp) : Prop :=
  ∃ f fd, FnOk P w K mg base CX0 k f fd ps sp ∧ PySem.W.keepIn K (.ref f) = true ∧ Binds K fd ps [] ∧ mg x = some (.ref f)
section
variable {P : Program} {w : World} {K : PySem.W.Frag} {mg : Str → Option Value} {base : Heap}
/-! ### turned -/
def tI (w : Nat) (x y : Int) : List V := [.int (Sa48.turned w x y).1, .int (Sa48.turned w x y).2]
def spTurned : Sp := fun vs H Q _ => ∃ (w : Nat) (x y : Int), vs = [.int w, .int x, .int y] ∧ w < 8 ∧ ∀ p H', Ex H H' → H' p = some (.tup (tI w x y)) → Q (.ref p) H'
theorem tI_at {w : Nat} (hw : w < 8) (x y : Int) : ([[.int x, .int y], [.int (-y), .int x], [.int (-x), .int (-y)], [.int y, .int (-x)], [.int (-x), .int y], [.int x, .int (-y)], [.int y, .int x], [.int (-y), .int (-x)]] : List (List V))[w]? = some (tI w x y) := by
  have h : w = 0 ∨ w = 1 ∨ w = 2 ∨ w = 3 ∨ w = 4 ∨ w = 5 ∨ w = 6 ∨ w = 7 := by omega
  rcases h with rfl | rfl | rfl | rfl | rfl | rfl | rfl | rfl <;> rfl
theorem ok_turned {f : Addr} {fd : FuncData} (F : Fun K "turned" "turned" s_turned f fd) : FnOk P w K mg base CX0 1 f fd ["way", "x", "y"] spTurned := by
  refine F.ok sc_turned (fun vs H Q E h => ?_) (fun cdv A outer s H vs Q E hr h => ?_)
  · obtain ⟨w, x, y, rfl, _⟩ := h
    rfl
  · obtain ⟨w, x, y, rfl, hw, q⟩ := h
    refine ⟨_,
      (pss_cons (ps_set (i := 3) sc_turned.nd rfl (Or.inl rfl) (pe_tup (pa_cons (pe_tup (pa_cons (pv 1) (pa_cons (pv 2) pa_nil))) (pa_cons (pe_tup (pa_cons (pe_un un_neg (pv 2)) (pa_cons (pv 1) pa_nil))) (pa_cons (pe_tup (pa_cons (pe_un un_neg (pv 1)) (pa_cons (pe_un un_neg (pv 2)) pa_nil))) (pa_cons (pe_tup (pa_cons (pv 2) (pa_cons (pe_un un_neg (pv 1)) pa_nil))) (pa_cons (pe_tup (pa_cons (pe_un un_neg (pv 1)) (pa_cons (pv 2) pa_nil))) (pa_cons (pe_tup (pa_cons (pv 1) (pa_cons (pe_un un_neg (pv 2)) pa_nil))) (pa_cons (pe_tup (pa_cons (pv 2) (pa_cons (pv 1) pa_nil))) (pa_cons (pe_tup (pa_cons (pe_un un_neg (pv 2)) (pa_cons (pe_un un_neg (pv 1)) pa_nil))) pa_nil))))))))))
          (pss_one (ps_ret (pe_ix ix_tup (pv 3) (pv 0) (fun _ _ => rfl)))))
      , ?_⟩
    have two : ∀ {a b : V}, ([a, b] : List V).length ≤ 100000 := fun {a b} => by show 2 ≤ 100000; decide
    refine q_tups (eau_cons (eu_tup (ea_cons (ev_var rfl) (ea_cons (ev_var rfl) ea_nil)) two) (eau_cons (eu_tup (ea_cons (ev_un (ev_var rfl) ru_neg) (ea_cons (ev_var rfl) ea_nil)) two) (eau_cons (eu_tup (ea_cons (ev_un (ev_var rfl) ru_neg) (ea_cons (ev_un (ev_var rfl) ru_neg) ea_nil)) two)
      (eau_cons (eu_tup (ea_cons (ev_var rfl) (ea_cons (ev_un (ev_var rfl) ru_neg) ea_nil)) two) (eau_cons (eu_tup (ea_cons (ev_un (ev_var rfl) ru_neg) (ea_cons (ev_var rfl) ea_nil)) two) (eau_cons (eu_tup (ea_cons (ev_var rfl) (ea_cons (ev_un (ev_var rfl) ru_neg) ea_nil)) two)
      (eau_cons (eu_tup (ea_cons (ev_var rfl) (ea_cons (ev_var rfl) ea_nil)) two) (eau_cons (eu_tup (ea_cons (ev_un (ev_var rfl) ru_neg) (ea_cons (ev_un (ev_var rfl) ru_neg) ea_nil)) two) eau_nil)))))))) (by show 8 ≤ 100000; decide) fun p vs H1 e1 hp ht => ?_
    exact s_retR (er_at (ev_var rfl) hp ht (ev_var rfl) rfl (tI_at hw x y)) fun p2 H2 e2 h2 => q p2 H2 (e1.trans e2) h2
/-! ### taken -/
def spTaken : Sp := fun vs H Q _ => ∃ (n w : Nat) (a b : Int) (k : Nat), vs = [.int n, .int w, .int a, .int b, .int k] ∧ 1 ≤ n ∧ n ≤ 64 ∧ w < 8 ∧ ∀ H', Ex H H' → Q (.int (pl n w a b k : Nat)) H'
theorem pl_int {n : Nat} (n1 : 1 ≤ n) (w : Nat) (a b : Int) (k : Nat) : ((pl n w a b k : Nat) : Int) = ((Sa48.turned w ((k : Int) % (n : Int)) ((k : Int) / (n : Int))).2 + b) % (n : Int) * (n : Int) + ((Sa48.turned w ((k : Int) % (n : Int)) ((k : Int) / (n : Int))).1 + a) % (n : Int) := by
  unfold pl Sa48Neutral.place Sa48.Move.takes
  dsimp only
  rw [Int.natCast_add, Int.natCast_mul, Int.natCast_emod, Int.natCast_ediv, Int.toNat_of_nonneg (Int.emod_nonneg _ (by omega)), Int.toNat_of_nonneg (Int.emod_nonneg _ (by omega))]
theorem ok_taken (C_turned : Cal P w K mg base 1 "turned" ["way", "x", "y"] spTurned) {f : Addr} {fd : FuncData} (F : Fun K "taken" "taken" s_taken f fd) : FnOk P w K mg base CX0 2 f fd ["n", "way", "a", "b", "place"] spTaken := by
  obtain ⟨f_turned, fd_turned, G_turned, kp_turned, b_turned, g_turned⟩ := C_turned
  refine F.ok sc_taken (fun vs H Q E h => ?_) (fun cdv A outer s H vs Q E hr h => ?_)
  · obtain ⟨n, w, a, b, k, rfl, _⟩ := h
    rfl
  · obtain ⟨n, w, a, b, k, rfl, n1, n6, hw, q⟩ := h
    refine ⟨_,
      (pss_cons (ps_set (i := 5) sc_taken.nd rfl (Or.inl rfl) (pe_call G_turned (hr.mono (by decide)) (by rfl) g_turned kp_turned b_turned .nil pass0 (pa_cons (pv 1) (pa_cons (pe_op op_mod (pv 4) (pv 0)) (pa_cons (pe_op op_fdiv (pv 4) (pv 0)) pa_nil)))))
          (pss_one (ps_ret (pe_op op_add (pe_op op_mul (pe_op op_mod (pe_op op_add (pe_ix ix_tup (pv 5) pe_int (fun _ _ => rfl)) (pv 3)) (pv 0)) (pv 0)) (pe_op op_mod (pe_op op_add (pe_ix ix_tup (pv 5) pe_int (fun _ _ => rfl)) (pv 2)) (pv 0))))))
      , ?_⟩
    refine q_asgR (er_call (ea_cons (ev_var rfl) (ea_cons (ev_op (ev_var rfl) (ev_var rfl) (rv_I (i := (k : Int)) (j := (n : Int)) (by omega))) (ea_cons (ev_op (ev_var rfl) (ev_var rfl) (rv_I (i := (k : Int)) (j := (n : Int)) ⟨by omega, by omega⟩)) ea_nil)))
      (xs := tI w ((k : Int) % (n : Int)) ((k : Int) / (n : Int))) fun H1 e1 Q q E => ⟨w, (k : Int) % (n : Int), (k : Int) / (n : Int), rfl, hw, fun p H2 e2 h2 => q p H2 e2 h2⟩) fun p H1 e1 hp => ?_
    refine s_ret (ev_op (ev_op (ev_op (ev_op (ev_op (ev_var rfl) ev_c (rv_ixT (v := .int (Sa48.turned w ((k : Int) % (n : Int)) ((k : Int) / (n : Int))).2) (st_of hp) (atI_nat (j := 1) rfl))) (ev_var rfl) rv_I0) (ev_var rfl) (rv_I (j := (n : Int)) (by omega))) (ev_var rfl) (rv_I (j := (n : Int)) (Or.inr ⟨by omega, by omega⟩)))
      (ev_op (ev_op (ev_op (ev_var rfl) ev_c (rv_ixT (v := .int (Sa48.turned w ((k : Int) % (n : Int)) ((k : Int) / (n : Int))).1) (st_of hp) (atI_nat (j := 0) rfl))) (ev_var rfl) rv_I0) (ev_var rfl) (rv_I (j := (n : Int)) (by omega))) rv_I0) fun H2 e2 => ?_
    have z := q H2 (e1.trans e2)
    rw [pl_int n1] at z
    exact z
theorem spTaken_W {H : Hp} {n w : Nat} {a b : Int} {k : Nat} (n1 : 1 ≤ n) (n64 : n ≤ 64) (hw : w < 8) : SpV spTaken ([.int n, .int w, .int a, .int b, .int k] ++ []) H (.int (pl n w a b k : Nat)) :=
  fun _ _ _ q _ => ⟨n, w, a, b, k, rfl, n1, n64, hw, fun H2 e2 => q H2 e2⟩
theorem spTaken_V {H : Hp} {n w : Nat} {a b : Int} {k : Nat} (n1 : 1 ≤ n) (n6 : n ≤ 6) (hw : w < 8) : SpV spTaken ([.int n, .int w, .int a, .int b, .int k] ++ []) H (.int (pl n w a b k : Nat)) := spTaken_W n1 (by omega) hw
end
/-- what is asked of a call -/
def Asked (m : Int) (c : List Int) : Prop := (m < 1 ∨ 64 < m) ∨ ∃ n : Nat, m = (n : Int) ∧ Rq n c
theorem asked_is {m : Int} {c : List Int} (h : Sa48Neutral.square m c = true) : Asked m c := by
  unfold Sa48Neutral.square at h
  rw [Bool.and_eq_true, Bool.and_eq_true] at h
  obtain ⟨_, h2, h3⟩ := h
  by_cases hm : 1 ≤ m ∧ m ≤ 64
  · rw [if_pos hm, Bool.and_eq_true, decide_eq_true_iff, decide_eq_true_iff] at h3
    refine .inr ⟨m.toNat, by omega, ⟨by omega, by omega, ?_, fun z hz => ?_⟩⟩
    · have e : ((m.toNat : Nat) : Int) = m := Int.toNat_of_nonneg (by omega)
      have e2 : ((m.toNat * m.toNat : Nat) : Int) = m * m := by rw [Int.natCast_mul, e]
      omega
    · have z1 := List.all_eq_true.mp h2 z hz
      unfold Sa48Neutral.natural at z1
      rw [Bool.and_eq_true, decide_eq_true_iff] at z1
      exact z1.1
  · exact .inl (by omega)

section
variable {P : Program} {w : World} {K : PySem.W.Frag} {mg : Str → Option Value} {base : Heap}
/-! ### is_symmetry -/
def spIs (K : PySem.W.Frag) : Sp := fun vs H Q _ => ∃ (ad : Addr) (n : Nat) (c : List Int) (w : Nat) (a b : Int), vs = [.int n, .ref ad, .int w, .int a, .int b] ∧ SqL K H ad (c.map V.int) ∧ Rq n c ∧ w < 8 ∧
  ∀ H', Ex H H' → Q (.bl (Sa48Neutral.sym (Pt n c) w a b)) H'
theorem ok_is (C_taken : Cal P w K mg base 2 "taken" ["n", "way", "a", "b", "place"] spTaken) {f : Addr} {fd : FuncData} (F : Fun K "is_symmetry" "is_symmetry" s_is_symmetry f fd) (m_range : mg "range" = none) : FnOk P w K mg base CX0 3 f fd ["n", "p", "way", "a", "b"] (spIs K) := by
  obtain ⟨f_taken, fd_taken, G_taken, kp_taken, b_taken, g_taken⟩ := C_taken
  refine F.ok sc_is_symmetry (fun vs H Q E h => ?_) (fun cdv A outer s H vs Q E hr h => ?_)
  · obtain ⟨ad, n, c, w, a, b, rfl, _⟩ := h
    rfl
  · obtain ⟨ad, n, c, w, a, b, rfl, hS, R, hw, q⟩ := h
    have n1 := R.lo
    have n6 := R.hi
    have nn : n * n ≤ 36 := Nat.mul_le_mul n6 n6
    have nm : (n : Int) * (n : Int) = ((n * n : Nat) : Int) := (Int.natCast_mul n n).symm
    refine ⟨_,
      (pss_cons (ps_for PassesOwn.never rfl (pi_range1 rfl m_range (pa_cons (pe_op op_mul (pv 0) (pv 0)) pa_nil)) (pg_name (i := 5) sc_is_symmetry.nd rfl (Or.inl rfl))
            (pss_one (ps_if (pt_cmpR op_ne (pe_ix ix_list (pv 1) (pv 5) (fun _ _ => rfl)) (pe_ix ix_list (pv 1) (pe_call G_taken (hr.mono (by decide)) (by rfl) g_taken kp_taken b_taken .nil pass0 (pa_cons (pv 0) (pa_cons (pv 2) (pa_cons (pv 3) (pa_cons (pv 4) (pa_cons (pv 5) pa_nil)))))) (fun _ _ => rfl)) (nomark _)) (pss_one (ps_ret pe_bl)) pss_nil)))
          (pss_one (ps_ret pe_bl)))
      , ?_⟩
    refine q_forR1 (n := (n : Int) * (n : Int)) (ea_cons (ev_op (ev_var rfl) (ev_var rfl) (rv_I (i := (n : Int)) (j := (n : Int)) (Or.inr ⟨by omega, by omega⟩))) ea_nil) ⟨by omega, by omega⟩
      (fun i σ' H' => ∃ s5, σ' = [some (.int n), some (.ref ad), some (.int w), some (.int a), some (.int b), s5] ∧ Ex H H' ∧ ∀ k, k < i → gt c k = gt c (pl n w a b k))
      (fun H1 e => ⟨none, rfl, e, fun k hk => absurd hk (Nat.not_lt_zero k)⟩) ?_ ?_
    · rintro i σ' H' hi ⟨s5, rfl, e1, hp⟩
      have hi' : i < n * n := by omega
      have sq := ex_l e1 hS
      refine s_when (b := !decide (V.int (gt c i) = V.int (gt c (pl n w a b i)))) (et_test (ev_op (ev_op (ev_var rfl) (ev_var rfl) (rv_ixL sq (at_int rfl (by rw [R.len]; exact hi'))))
        (ev_op (ev_var rfl) (ev_call (ea_cons (ev_var rfl) (ea_cons (ev_var rfl) (ea_cons (ev_var rfl) (ea_cons (ev_var rfl) (ea_cons (ev_var rfl) ea_nil))))) (spTaken_V n1 n6 hw)) (rv_ixL sq (at_int rfl (by rw [R.len]; exact pl_lt n1 w a b i)))) (rv_ne rfl))) ?_ ?_
      · intro hb H3 e3
        refine s_ret ev_c fun H4 e4 => ?_
        have z := q H4 ((e1.trans e3).trans e4)
        have hf : Sa48Neutral.sym (Pt n c) w a b = false := by
          rw [← Bool.not_eq_true, sym_all R]
          intro y
          rw [y i hi', decide_eq_true rfl] at hb
          cases hb
        rw [hf] at z
        exact z
      · intro hb H3 e3
        refine ⟨_, rfl, e1.trans e3, fun k hk => ?_⟩
        rcases Nat.lt_succ_iff_lt_or_eq.mp hk with h | rfl
        · exact hp k h
        · rw [Bool.not_eq_false', decide_eq_true_iff] at hb
          exact V.int.inj hb
    · rintro σ' H' ⟨s5, rfl, e1, hp⟩
      refine s_ret ev_c fun H4 e4 => ?_
      have z := q H4 (e1.trans e4)
      rw [(sym_all R).mpr fun k hk => hp k (by omega)] at z
      exact z
theorem spIs_V {H : Hp} {ad : Addr} {n : Nat} {c : List Int} {w : Nat} {a b : Int} (hS : SqL K H ad (c.map V.int)) (R : Rq n c) (hw : w < 8) : SpV (spIs K) ([.int n, .ref ad, .int w, .int a, .int b] ++ []) H (.bl (Sa48Neutral.sym (Pt n c) w a b)) :=
  fun _ e _ q _ => ⟨ad, n, c, w, a, b, rfl, ex_l e hS, R, hw, fun H2 e2 => q H2 e2⟩
end

section
variable {P : Program} {w : World} {K : PySem.W.Frag} {mg : Str → Option Value} {base : Heap}
/-! ### is_side -/
def spSide : Sp := fun vs H Q _ => ∃ m : Int, vs = [.int m] ∧ ∀ H', Ex H H' → Q (.bl (decide (1 ≤ m) && decide (m ≤ 64))) H'
theorem ok_side {f : Addr} {fd : FuncData} (F : Fun K "is_side" "is_side" s_is_side f fd) : FnOk P w K mg base CX0 1 f fd ["n"] spSide := by
  refine F.ok sc_is_side (fun vs H Q E h => ?_) (fun cdv A outer s H vs Q E hr h => ?_)
  · obtain ⟨m, rfl, _⟩ := h
    rfl
  · obtain ⟨m, rfl, q⟩ := h
    refine ⟨_,
      (pss_one (ps_ret (pe_chain op_le op_le pe_int (pv 0) pe_int)))
      , ?_⟩
    exact s_ret (ev_chain ev_c (ev_var rfl) ev_c) fun H1 e1 => q H1 e1
theorem spSide_V {H : Hp} (m : Int) : SpV spSide ([.int m] ++ []) H (.bl (decide (1 ≤ m) && decide (m ≤ 64))) := fun _ _ _ q _ => ⟨m, rfl, fun H2 e2 => q H2 e2⟩
theorem not_side {m : Int} (h : (!(decide (1 ≤ m) && decide (m ≤ 64))) = true) : m < 1 ∨ 64 < m := by
  rw [Bool.not_eq_true', Bool.and_eq_false_iff, decide_eq_false_iff_not, decide_eq_false_iff_not] at h
  omega
theorem is_side {m : Int} (h : (!(decide (1 ≤ m) && decide (m ≤ 64))) = false) : 1 ≤ m ∧ m ≤ 64 := by
  rw [Bool.not_eq_false', Bool.and_eq_true, decide_eq_true_iff, decide_eq_true_iff] at h
  exact h
end

section
variable {P : Program} {w : World} {K : PySem.W.Frag} {mg : Str → Option Value} {base : Heap}
/-! ### movements, in the program's order -/
abbrev M3 := Nat × Nat × Nat
def tri (m : M3) : List V := [.int m.1, .int m.2.1, .int m.2.2]
def mvI (w b i : Nat) : List M3 := (List.range i).map fun a => (w, a, b)
def mvJ (n w j : Nat) : List M3 := (List.range j).flatMap fun b => mvI w b n
def mv (n k : Nat) : List M3 := (List.range k).flatMap fun w => mvJ n w n
theorem mem_mv {n k : Nat} {m : M3} : m ∈ mv n k ↔ m.1 < k ∧ m.2.1 < n ∧ m.2.2 < n := by
  unfold mv mvJ mvI
  simp only [List.mem_flatMap, List.mem_map, List.mem_range]
  constructor
  · rintro ⟨w, hw, b, hb, a, ha, rfl⟩
    exact ⟨hw, ha, hb⟩
  · rintro ⟨hw, ha, hb⟩
    exact ⟨m.1, hw, m.2.2, hb, m.2.1, ha, rfl⟩
theorem mvI_succ (w b i : Nat) : mvI w b (i + 1) = mvI w b i ++ [(w, i, b)] := by
  unfold mvI
  rw [List.range_succ, List.map_append]
  rfl
theorem mvJ_succ (n w j : Nat) : mvJ n w (j + 1) = mvJ n w j ++ mvI w j n := by
  unfold mvJ
  rw [List.range_succ, List.flatMap_append, List.flatMap_singleton]
theorem mv_succ (n k : Nat) : mv n (k + 1) = mv n k ++ mvJ n k n := by
  unfold mv
  rw [List.range_succ, List.flatMap_append, List.flatMap_singleton]
theorem mvI_len (w b i : Nat) : (mvI w b i).length = i := by
  unfold mvI
  rw [List.length_map, List.length_range]
theorem mvJ_len (n w : Nat) : ∀ j, (mvJ n w j).length = j * n
  | 0 => (Nat.zero_mul n).symm
  | j + 1 => by rw [mvJ_succ, List.length_append, Nat.add_mul, Nat.one_mul, mvJ_len n w j, mvI_len]
theorem mv_len (n : Nat) : ∀ k, (mv n k).length = k * (n * n)
  | 0 => (Nat.zero_mul _).symm
  | k + 1 => by rw [mv_succ, List.length_append, Nat.add_mul, Nat.one_mul, mv_len n k, mvJ_len]
/-- how many of the eight count -/
def cn (w : Nat) : Nat := if w = 0 then 1 else if w = 1 then 4 else 8
theorem cn_le (w : Nat) : 1 ≤ cn w ∧ cn w ≤ 8 := by
  unfold cn
  split
  · omega
  · split <;> omega
theorem cn_at {w : Nat} (hw : w ≤ 2) : ([.int 1, .int 4, .int 8] : List V)[w]? = some (.int (cn w : Nat)) := by
  have h : w = 0 ∨ w = 1 ∨ w = 2 := by omega
  rcases h with rfl | rfl | rfl <;> rfl
def spMv : Sp := fun vs H Q _ => ∃ (n w : Nat), vs = [.int n, .int w] ∧ 1 ≤ n ∧ n ≤ 8 ∧ w ≤ 2 ∧
  ∀ l xs H', H l = none → Ex H H' → H' l = some (.lst xs) → Tups H' xs ((mv n (cn w)).map tri) → Q (.ref l) H'
/-- the list that grows: what stands at l is ms, so far -/
structure Gr (H0 H' : Hp) (l : Addr) (ms : List M3) : Prop where
  new : H0 l = none
  ex : Ex H0 H'
  is : ∃ xs, H' l = some (.lst xs) ∧ Tups H' xs (ms.map tri)
theorem Gr.mono {H0 H1 H2 : Hp} {l : Addr} {ms : List M3} (g : Gr H0 H1 l ms) (e : Ex H1 H2) : Gr H0 H2 l ms := by
  obtain ⟨xs, h1, h2⟩ := g.is
  exact ⟨g.new, g.ex.trans e, xs, e _ _ h1, h2.mono e⟩
theorem Gr.to {H0 H1 : Hp} {l : Addr} {ms ms' : List M3} (g : Gr H0 H1 l ms) (e : ms = ms') : Gr H0 H1 l ms' := e ▸ g
theorem ok_mv {f : Addr} {fd : FuncData} (F : Fun K "movements_by" "movements_by" s_movements_by f fd) (m_range : mg "range" = none) : FnOk P w K mg base CX0 1 f fd ["n", "what"] spMv := by
  refine F.ok sc_movements_by (fun vs H Q E h => ?_) (fun cdv A outer s H vs Q E hr h => ?_)
  · obtain ⟨n, w, rfl, _⟩ := h
    rfl
  · obtain ⟨n, w, rfl, n1, n8, hw, q⟩ := h
    have nn : n * n ≤ 64 := Nat.mul_le_mul n8 n8
    have c8 := cn_le w
    refine ⟨_,
      (pss_cons (ps_set (i := 2) sc_movements_by.nd rfl (Or.inl rfl) (pe_lst pa_nil))
          (pss_cons (ps_for PassesOwn.never rfl (pi_range1 rfl m_range (pa_cons (pe_ix ix_tup (pe_tup (pa_cons pe_int (pa_cons pe_int (pa_cons pe_int pa_nil)))) (pv 1) (fun _ _ => rfl)) pa_nil)) (pg_name (i := 3) sc_movements_by.nd rfl (Or.inl rfl))
            (pss_one (ps_for PassesOwn.never rfl (pi_range1 rfl m_range (pa_cons (pv 0) pa_nil)) (pg_name (i := 4) sc_movements_by.nd rfl (Or.inl rfl))
            (pss_one (ps_for PassesOwn.never rfl (pi_range1 rfl m_range (pa_cons (pv 0) pa_nil)) (pg_name (i := 5) sc_movements_by.nd rfl (Or.inl rfl))
            (pss_one (ps_expr (pe_bm PySem.F.plainAttrs_list PySem.F.slot_list_append PySem.F.type_list_append mt_append (pv 2) (pa_cons (pe_tup (pa_cons (pv 3) (pa_cons (pv 5) (pa_cons (pv 4) pa_nil)))) pa_nil)))))))))
          (pss_one (ps_ret (pv 2)))))
      , ?_⟩
    refine q_asgL (el_lst ea_nil (by show 0 ≤ 100000; decide)) fun l H1 hl e1 h1 => ?_
    refine q_forR1 (n := (cn w : Nat)) (ea_cons (ev_opU1 (eu_tup (ea_cons ev_c (ea_cons ev_c (ea_cons ev_c ea_nil))) (by show 3 ≤ 100000; decide)) (fun H1 _ => ev_var rfl) fun p H1 hp _ => rv_ixT (st_of hp) (atI_nat (cn_at hw))) ea_nil) ⟨by omega, by omega⟩
      (fun k σ' H' => ∃ s3 s4 s5, σ' = [some (.int n), some (.int w), some (.ref l), s3, s4, s5] ∧ Gr H H' l (mv n k))
      (fun H2 e2 => ⟨none, none, none, rfl, ⟨hl, e1.trans e2, [], e2 _ _ h1, trivial⟩⟩) ?_ ?_
    · rintro k σ' H' hk ⟨s3, s4, s5, rfl, g1⟩
      have lk : (mv n k).length ≤ 8 * (n * n) := by rw [mv_len]; exact Nat.mul_le_mul_right _ (by omega)
      refine s_forR1 (n := (n : Int)) (ea_cons (ev_var rfl) ea_nil) ⟨by omega, by omega⟩
        (fun j σ' H' => ∃ s4 s5, σ' = [some (.int n), some (.int w), some (.ref l), some (.int k), s4, s5] ∧ Gr H H' l (mv n k ++ mvJ n k j))
        (fun H2 e2 => ⟨s4, s5, rfl, (g1.mono e2).to (List.append_nil _).symm⟩) ?_ ?_
      · rintro j σ' H' hj ⟨s4, s5, rfl, g2⟩
        have lj : (mvJ n k j).length ≤ n * n := by rw [mvJ_len]; exact Nat.mul_le_mul_right n (show j ≤ n by omega)
        refine s_forR1 (n := (n : Int)) (ea_cons (ev_var rfl) ea_nil) ⟨by omega, by omega⟩
          (fun i σ' H' => ∃ s5, σ' = [some (.int n), some (.int w), some (.ref l), some (.int k), some (.int j), s5] ∧ Gr H H' l (mv n k ++ mvJ n k j ++ mvI k j i))
          (fun H2 e2 => ⟨s5, rfl, (g2.mono e2).to (List.append_nil _).symm⟩) ?_ ?_
        · rintro i σ' H' hi ⟨s5, rfl, g3⟩
          have li := mvI_len k j i
          obtain ⟨xs, h4, h5⟩ := g3.is
          refine s_appU (xs := xs) h4 (ev_var rfl) (eu_tup (ea_cons (ev_var rfl) (ea_cons (ev_var rfl) (ea_cons (ev_var rfl) ea_nil))) (by show 3 ≤ 100000; decide)) ?_ ?_
          · rw [h5.len, List.length_map, List.length_append, List.length_append]
            omega
          · intro p H4 hp4 e4 h6
            refine ⟨_, rfl, ⟨g3.new, (g3.ex.trans e4).mut g3.new, _, upd_same, ?_⟩⟩
            rw [mvI_succ, ← List.append_assoc, List.map_append]
            exact ((h5.mono e4).app h6).upd (e4 _ _ h4)
        · rintro σ' H' ⟨s5, rfl, g3⟩
          exact ⟨_, _, rfl, g3.to (by rw [mvJ_succ, List.append_assoc]; rfl)⟩
      · rintro σ' H' ⟨s4, s5, rfl, g2⟩
        exact ⟨_, _, _, rfl, g2.to (by rw [mv_succ]; rfl)⟩
    · rintro σ' H' ⟨s3, s4, s5, rfl, g1⟩
      rw [Int.toNat_natCast] at g1
      refine s_ret (ev_var rfl) fun H2 e2 => ?_
      obtain ⟨xs, h4, h5⟩ := (g1.mono e2).is
      exact q l xs H2 g1.new (g1.ex.trans e2) h4 h5
/-! ### a comprehension over the movements -/
/-- what a reading gives is one of I -/
def EvI (te : TE) (σ : L2.St) (H : Hp) (I : V → Hp → Prop) : Prop := ∀ H1, Ex H H1 → ∀ Q : VK, (∀ y H2, Ex H1 H2 → I y H2 → Q y H2) → te σ H1 Q
def Its (It : M3 → V → Hp → Prop) (H : Hp) : List V → List M3 → Prop
  | [], [] => True
  | y :: ys, m :: ms => It m y H ∧ Its It H ys ms
  | _, _ => False
/-- what an item is lasts -/
structure Lasts (It : M3 → V → Hp → Prop) : Prop where
  ex : ∀ {m y H H'}, It m y H → Ex H H' → It m y H'
  up : ∀ {m y H D ys o}, It m y H → H D = some (.lst ys) → It m y (upd H D o)
theorem Its.mono {It : M3 → V → Hp → Prop} (L : Lasts It) {H H' : Hp} (e : Ex H H') : ∀ {ys : List V} {ms : List M3}, Its It H ys ms → Its It H' ys ms
  | [], [], _ => trivial
  | _ :: _, _ :: _, ⟨h1, h2⟩ => ⟨L.ex h1 e, Its.mono L e h2⟩
theorem Its.up {It : M3 → V → Hp → Prop} (L : Lasts It) {H : Hp} {D : Addr} {zs : List V} {o : HO} (h : H D = some (.lst zs)) : ∀ {ys : List V} {ms : List M3}, Its It H ys ms → Its It (upd H D o) ys ms
  | [], [], _ => trivial
  | _ :: _, _ :: _, ⟨h1, h2⟩ => ⟨L.up h1 h, Its.up L h h2⟩
theorem Its.app {It : M3 → V → Hp → Prop} {H : Hp} {y : V} {m : M3} (h : It m y H) : ∀ {ys : List V} {ms : List M3}, Its It H ys ms → Its It H (ys ++ [y]) (ms ++ [m])
  | [], [], _ => ⟨h, trivial⟩
  | _ :: _, _ :: _, ⟨h1, h2⟩ => ⟨h1, Its.app h h2⟩
theorem Its.len {It : M3 → V → Hp → Prop} {H : Hp} : ∀ {ys : List V} {ms : List M3}, Its It H ys ms → ys.length = ms.length
  | [], [], _ => rfl
  | _ :: _, _ :: _, ⟨_, h⟩ => congrArg (· + 1) h.len
/-- an item that stands for a tuple -/
def IsTup (f : M3 → List V) (m : M3) (y : V) (H : Hp) : Prop := ∃ a, y = .ref a ∧ H a = some (.tup (f m))
theorem isTup_lasts (f : M3 → List V) : Lasts (IsTup f) := ⟨fun ⟨a, h1, h2⟩ e => ⟨a, h1, e _ _ h2⟩, fun ⟨a, h1, h2⟩ h => ⟨a, h1, by
  rw [upd_ne (fun z => by rw [z, h] at h2; cases h2)]
  exact h2⟩⟩
theorem Its.tups {f : M3 → List V} {H : Hp} : ∀ {ys : List V} {ms : List M3}, Its (IsTup f) H ys ms → Tups H ys (ms.map f)
  | [], [], _ => trivial
  | _ :: _, _ :: _, ⟨h1, h2⟩ => ⟨h1, h2.tups⟩
/-- an item that is a value of its own -/
def IsVal (f : M3 → V) (m : M3) (y : V) (_ : Hp) : Prop := y = f m
theorem isVal_lasts (f : M3 → V) : Lasts (IsVal f) := ⟨fun h _ => h, fun h _ => h⟩
theorem Its.vals {f : M3 → V} {H : Hp} : ∀ {ys : List V} {ms : List M3}, Its (IsVal f) H ys ms → ys = ms.map f
  | [], [], _ => rfl
  | _ :: _, _ :: _, ⟨h1, h2⟩ => by rw [List.map_cons, h2.vals, show _ = _ from h1]
theorem take_filter {q : M3 → Bool} {ms : List M3} {i : Nat} {m : M3} (h : ms[i]? = some m) : (ms.take (i + 1)).filter q = (ms.take i).filter q ++ if q m = true then [m] else [] := by
  rw [List.take_add_one, h, List.filter_append]
  congr 1
  show List.filter q [m] = _
  rw [List.filter_cons]
  rfl
/-- a reading that gives a list of the movements ms -/
def EvM (tl : TE) (σ : L2.St) (H : Hp) (ms : List M3) : Prop := ∀ H1, Ex H H1 → ∀ Q : VK, (∀ l fs H2, Ex H1 H2 → H2 l = some (.lst fs) → Tups H2 fs (ms.map tri) → Q (.ref l) H2) → tl σ H1 Q
theorem em_var {i : Nat} {l : Addr} {fs : List V} {σ : L2.St} {H : Hp} {ms : List M3} (h : σ[i]? = some (some (.ref l))) (hl : H l = some (.lst fs)) (tf : Tups H fs (ms.map tri)) : EvM (tVar i) σ H ms :=
  fun H1 e1 Q k => ⟨_, h, k l fs H1 (Ex.refl _) (e1 _ _ hl) (tf.mono e1)⟩
theorem em_mv {n w : Nat} {ta : TA} {σ : L2.St} {H : Hp} {dvs : List V} {E : XK} (h : EvA ta σ H [.int n, .int w]) (hd : dvs = []) (n1 : 1 ≤ n) (n8 : n ≤ 8) (hw : w ≤ 2) : EvM (tCall spMv dvs E ta) σ H (mv n (cn w)) := by
  subst hd
  exact fun H1 e1 Q k => h H1 e1 _ fun H2 e2 => ⟨n, w, rfl, n1, n8, hw, fun l xs H3 _ e3 h3 t3 => k l xs H3 (e2.trans e3) h3 t3⟩
theorem q_asgM {tl : TE} {tz : TS} {D : Ends} {σ : L2.St} {H : Hp} {i : Nat} {ms : List M3} (h : EvM tl σ H ms) (k : ∀ l fs H1, Ex H H1 → H1 l = some (.lst fs) → Tups H1 fs (ms.map tri) → tz D (σ.set i (some (.ref l))) H1) : tSeq (tAsg tl (gName i)) tz D σ H := h H (Ex.refl H) _ k
/-- .. that gives a new list of what It says of those that the test keeps -/
def EvIts (te : TE) (σ : L2.St) (H : Hp) (It : M3 → V → Hp → Prop) (ms : List M3) : Prop := ∀ H1, Ex H H1 → ∀ Q : VK, (∀ D ys H2, H1 D = none → Ex H1 H2 → H2 D = some (.lst ys) → Its It H2 ys ms → Q (.ref D) H2) → te σ H1 Q
theorem el_mv {g : TG} {tt : TT} {tl te : TE} {vs : List Nat} {σ : L2.St} {H : Hp} {ms : List M3} (σm : M3 → Addr → L2.St) (q : M3 → Bool) (It : M3 → V → Hp → Prop) (L : Lasts It) (hm : EvM tl σ H ms) (hz : ms.length ≤ 40000)
    (hg : ∀ m ta H' (R : L2.St → Hp → Prop), H' ta = some (.tup (tri m)) → R (σm m ta) H' → g (.ref ta) (wipe σ vs) H' R) (hw : ∀ m ta, wipe (σm m ta) vs = wipe σ vs)
    (ht : ∀ m ta H1, m ∈ ms → Ex H H1 → H1 ta = some (.tup (tri m)) → EvT tt (σm m ta) H1 (q m)) (he : ∀ m ta H1, m ∈ ms → q m = true → Ex H H1 → H1 ta = some (.tup (tri m)) → EvI te (σm m ta) H1 (It m)) :
    EvIts (tLc (iList K tl) g tt te vs) σ H It (ms.filter q) := fun H0 e0 Q hQ => hm H0 e0 _ fun l fs H1 e1 hl tf => by
  have hlen := tf.len
  rw [List.length_map] at hlen
  refine ⟨l, rfl, ⟨fs, sq_of hl⟩, fun D hD => ?_⟩
  refine lc_list (Qd := fun H => Q (.ref D) H) (xs := fs) (fun i H' => Ex H1 H' ∧ ∃ acc, H' D = some (.lst acc) ∧ acc.length ≤ i ∧ Its It H' acc ((ms.take i).filter q)) ⟨Ex.new hD, [], upd_same, Nat.le_refl _, trivial⟩
    (fun i H' _ p => sq_of (p.1 _ _ hl)) (fun i x H' hi p => ?_) (fun H' p => ?_)
  · obtain ⟨e2, acc, h1, h2, h3⟩ := p
    have e02 := (e0.trans e1).trans e2
    obtain ⟨zs, ta, hz1, rfl, hta⟩ := (tf.mono e2).get hi
    rw [List.getElem?_map] at hz1
    obtain ⟨m, hm, rfl⟩ := Option.map_eq_some_iff.mp hz1
    have hmem := List.mem_of_getElem? hm
    have il : i < fs.length := (List.getElem?_eq_some_iff.mp hi).1
    refine hg m ta H' _ hta ⟨hw m ta, ?_⟩
    refine ht m ta H' hmem e02 hta H' (Ex.refl _) _ fun H3 e3 => ?_
    have tk := take_filter (q := q) hm
    cases hq : q m with
    | true =>
      rw [if_pos rfl]
      rw [hq, if_pos rfl] at tk
      refine he m ta H' hmem hq e02 hta H3 e3 _ fun y H4 e4 hy => ⟨acc, e4 _ _ (e3 _ _ h1), sz_lt (by omega), ((e2.trans e3).trans e4).mut hD, _, upd_same, by rw [List.length_append]; show acc.length + 1 ≤ i + 1; omega, ?_⟩
      rw [tk]
      have i1 := Its.app hy (Its.mono L (e3.trans e4) h3)
      exact Its.up L (e4 _ _ (e3 _ _ h1)) i1
    | false =>
      rw [if_neg (by decide)]
      rw [hq, if_neg (by decide), List.append_nil] at tk
      refine ⟨e2.trans e3, acc, e3 _ _ h1, by omega, ?_⟩
      rw [tk]
      exact Its.mono L e3 h3
  · obtain ⟨e2, acc, h1, _, h3⟩ := p
    rw [hlen, List.take_length] at h3
    exact hQ D acc H' (fresh_back e1 hD) (e1.trans e2) h1 h3
/-- .. where each item is a value of its own -/
theorem EvIts.list {te : TE} {σ : L2.St} {H : Hp} {f : M3 → V} {ms : List M3} (h : EvIts te σ H (IsVal f) ms) : EvL te σ H (ms.map f) := fun H1 e Q q => h H1 e Q fun D ys H2 hD e2 h2 i2 => q D H2 hD e2 (by rw [h2, i2.vals])
end

section
variable {P : Program} {w : World} {K : PySem.W.Frag} {mg : Str → Option Value} {base : Heap}
/-! ### symmetries -/
def isSym (p : Sa48.Pat) (m : M3) : Bool := Sa48Neutral.sym p m.1 (m.2.1 : Int) (m.2.2 : Int)
def syms (p : Sa48.Pat) : List M3 := (mv p.n 8).filter (isSym p)
theorem mem_syms {p : Sa48.Pat} {m : M3} : m ∈ syms p ↔ m.1 < 8 ∧ m.2.1 < p.n ∧ m.2.2 < p.n ∧ Sa48Neutral.sym p m.1 (m.2.1 : Int) (m.2.2 : Int) = true := by
  unfold syms isSym
  rw [List.mem_filter, mem_mv]
  constructor
  · rintro ⟨⟨hw, ha, hb⟩, hs⟩
    exact ⟨hw, ha, hb, hs⟩
  · rintro ⟨hw, ha, hb, hs⟩
    exact ⟨⟨hw, ha, hb⟩, hs⟩
theorem syms_len (p : Sa48.Pat) : (syms p).length ≤ 8 * (p.n * p.n) := by
  have h := List.length_filter_le (isSym p) (mv p.n 8)
  rw [mv_len] at h
  exact h
def spSyms (K : PySem.W.Frag) : Sp := fun vs H Q _ => ∃ (ad : Addr) (n : Nat) (c : List Int), vs = [.int n, .ref ad] ∧ SqL K H ad (c.map V.int) ∧ Rq n c ∧
  ∀ l xs H', Ex H H' → H' l = some (.lst xs) → Tups H' xs ((syms (Pt n c)).map tri) → Q (.ref l) H'
theorem ok_syms (C_is_symmetry : Cal P w K mg base 3 "is_symmetry" ["n", "p", "way", "a", "b"] (spIs K)) (C_movements_by : Cal P w K mg base 1 "movements_by" ["n", "what"] spMv) {f : Addr} {fd : FuncData} (F : Fun K "symmetries" "symmetries" s_symmetries f fd) : FnOk P w K mg base CX0 4 f fd ["n", "p"] (spSyms K) := by
  obtain ⟨f_is_symmetry, fd_is_symmetry, G_is_symmetry, kp_is_symmetry, b_is_symmetry, g_is_symmetry⟩ := C_is_symmetry
  obtain ⟨f_movements_by, fd_movements_by, G_movements_by, kp_movements_by, b_movements_by, g_movements_by⟩ := C_movements_by
  refine F.ok sc_symmetries (fun vs H Q E h => ?_) (fun cdv A outer s H vs Q E hr h => ?_)
  · obtain ⟨ad, n, c, rfl, _⟩ := h
    rfl
  · obtain ⟨ad, n, c, rfl, hS, R, q⟩ := h
    have n1 := R.lo
    have n6 := R.hi
    have nn : n * n ≤ 36 := Nat.mul_le_mul n6 n6
    refine ⟨_,
      (pss_one (ps_ret (pe_lc (own := [("movement", 2)]) rfl sc_symmetries.nd (pi_list (pe_call G_movements_by (hr.mono (by decide)) (by rfl) g_movements_by kp_movements_by b_movements_by .nil pass0 (pa_cons (pv 0) (pa_cons pe_int pa_nil)))) (blkOk_by (own := [("movement", 2)]) (N := ["n", "p", "movement"]) (sc := defScope s_symmetries) (by decide +kernel)) (fun _ _ _ _ _ => (pg_name (i := 2) sc_symmetries.nd rfl (Or.inl rfl) (Or.inr rfl))) (fun _ _ _ _ _ => (pts_one (pt_val (pe_call G_is_symmetry (hr.mono (by decide)) (by rfl) g_is_symmetry kp_is_symmetry b_is_symmetry .nil pass0 (pa_cons (pv 0) (pa_cons (pv 1) (pa_cons (pe_ix (show IxR _ (rIxT K) from ix_tup) (pv 2) pe_int (fun _ _ => rfl)) (pa_cons (pe_ix (show IxR _ (rIxT K) from ix_tup) (pv 2) pe_int (fun _ _ => rfl)) (pa_cons (pe_ix (show IxR _ (rIxT K) from ix_tup) (pv 2) pe_int (fun _ _ => rfl)) pa_nil))))))))) (fun _ _ _ _ _ => (pv 2)))))
      , ?_⟩
    have ml : (mv n 8).length ≤ 40000 := by
      rw [mv_len]
      omega
    refine el_mv (K := K) (fun m ta => [some (.int n), some (.ref ad), some (.ref ta)]) (isSym (Pt n c)) (IsTup tri) (isTup_lasts tri) (ms := mv n 8) (em_mv (w := 2) (ea_cons (ev_var rfl) (ea_cons ev_c ea_nil)) rfl n1 (by omega) (by omega)) ml (fun m ta H' R _ h => h) (fun m ta => rfl) ?_ ?_ H (Ex.refl H) _ fun D ys H2 _ e2 h2 i2 => ?_
    · intro m ta H2 hm e2 hta
      have h8 := (mem_mv.mp hm).1
      exact et_B (ev_call (ea_cons (ev_var rfl) (ea_cons (ev_var rfl) (ea_cons (ev_op (ev_var rfl) ev_c (rv_ixT (v := .int (m.1 : Int)) (st_of hta) (atI_nat (j := 0) rfl))) (ea_cons (ev_op (ev_var rfl) ev_c (rv_ixT (v := .int (m.2.1 : Int)) (st_of hta) (atI_nat (j := 1) rfl))) (ea_cons (ev_op (ev_var rfl) ev_c (rv_ixT (v := .int (m.2.2 : Int)) (st_of hta) (atI_nat (j := 2) rfl))) ea_nil))))) (spIs_V (ex_l e2 hS) R h8))
    · intro m ta H2 _ _ e2 hta
      exact fun H3 e3 Q k => ⟨_, rfl, k _ H3 (Ex.refl _) ⟨ta, rfl, e3 _ _ hta⟩⟩
    · exact q D ys H2 e2 h2 i2.tups
end

section
variable {K : PySem.W.Frag} {σ : L2.St} {H H' : Hp} {ta tb te tl : TE} {D : Ends} {tz tu : TS} {g : TG}
/-- a walk over a new tuple -/
theorem s_forNT {xs : List V} (h : EvU tl σ H xs) (Pv : Addr → Nat → L2.St → Hp → Prop) (h0 : ∀ p H1, H p = none → Ex H H1 → H1 p = some (.tup xs) → Pv p 0 σ H1) (hl : ∀ p i σ' H', i ≤ xs.length → Pv p i σ' H' → SqT K H' p xs)
    (hs : ∀ p i x σ' H', xs[i]? = some x → Pv p i σ' H' → g x σ' H' fun σ2 H2 => tu { D with nx := Pv p (i + 1), ct := Pv p (i + 1), bk := D.nx } σ2 H2) (hd : ∀ p σ' H', Pv p xs.length σ' H' → D.nx σ' H') : tFor (iTup K tl) g tu D σ H :=
  h H (Ex.refl H) _ fun p H1 hp e h1 => ⟨p, rfl, ⟨xs, st_of h1⟩, for_tup (Pv p) (h0 p H1 hp e h1) (hl p) (hs p) (hd p)⟩
/-- max of a new list -/
theorem ev_max {ns : List Int} {m : Int} (h : EvL tl σ H (ns.map V.int)) (h0 : 0 < ns.length) (hm : ∀ z, z ∈ ns → (∀ y, y ∈ ns → y ≤ z) → z = m) : Ev (tCB (rMax K) (tCons tl tNil)) σ H (.int m) := fun H1 e Q q =>
  h H1 e _ fun p H2 _ e2 h2 => ⟨p, ns, rfl, sq_of h2, h0, fun z hz hy => by
    rw [hm z hz hy]
    exact q H2 e2⟩
/-- xs.count(k) of a new list -/
theorem ev_count {ns : List Int} {k : Int} (h : EvL tl σ H (ns.map V.int)) (hk : Ev tb σ H (.int k)) : Ev (tBM K "list" (rCntI K) tl (tCons tb tNil)) σ H (.int (ns.count k : Nat)) := fun H1 e Q q =>
  h H1 e _ fun p H2 _ e2 h2 => ⟨Or.inl ⟨rfl, _, sq_of h2⟩, hk H2 (e.trans e2) _ fun H3 e3 => ⟨p, ns, k, rfl, rfl, sq_of (e3 _ _ h2), q H3 (e2.trans e3)⟩⟩
/-- the symmetries that a test keeps, as a comprehension gives them -/
theorem given_tups {q : M3 → Bool} {f : Nat → Bool} {fs : List V} {ms : List M3} (tf : Tups H fs (ms.map tri)) (hf : ∀ i m, ms[i]? = some m → f i = q m) : ∀ k, k ≤ fs.length → Tups H (given k f fun i => (fs[i]?).getD .non) (((ms.take k).filter q).map tri)
  | 0, _ => trivial
  | k + 1, hk => by
    have ih := given_tups tf hf k (by omega)
    have hl := tf.len
    rw [List.length_map] at hl
    have hm : ms[k]? = some ms[k] := List.getElem?_eq_getElem (by omega)
    have et : ms.take (k + 1) = ms.take k ++ [ms[k]] := by
      rw [List.take_add_one, hm]
      rfl
    obtain ⟨a, h1, h2⟩ := tf.at (i := k) (xs := tri ms[k]) (by rw [List.getElem?_map, hm]; rfl)
    rw [et, List.filter_append]
    have e := hf k _ hm
    cases hq : q ms[k] with
    | true =>
      rw [hq] at e
      rw [given_yes e, List.filter_cons, if_pos hq, h1, List.map_append]
      exact ih.app h2
    | false =>
      rw [hq] at e
      rw [given_no e, List.filter_cons, if_neg (by rw [hq]; decide)]
      have n0 : ms.take k = ms.take k := rfl
      show Tups H _ (List.map tri (List.filter q (ms.take k) ++ []))
      rw [List.append_nil]
      exact ih
theorem given_all {q : M3 → Bool} {f : Nat → Bool} {fs : List V} {ms : List M3} (tf : Tups H fs (ms.map tri)) (hf : ∀ i m, ms[i]? = some m → f i = q m) : Tups H (given fs.length f fun i => (fs[i]?).getD .non) ((ms.filter q).map tri) := by
  have h := given_tups tf hf fs.length (Nat.le_refl _)
  have hl := tf.len
  rw [List.length_map] at hl
  rw [hl, List.take_length] at h
  rw [hl]
  exact h
end
section
variable {P : Program} {w : World} {K : PySem.W.Frag} {mg : Str → Option Value} {base : Heap}
/-! ### has_mirror -/
def spHas (K : PySem.W.Frag) : Sp := fun vs H Q _ => ∃ (ad : Addr) (n : Nat) (c : List Int) (w : Nat), vs = [.int n, .ref ad, .int w] ∧ SqL K H ad (c.map V.int) ∧ Rq n c ∧ 4 ≤ w ∧ w < 8 ∧
  ∀ H', Ex H H' → Q (.bl (Sa48Neutral.hasMirror (Pt n c) w)) H'
def shT (w : Nat) (k : Int) : List V := [.int (KM.shx w k), .int (KM.shy w k)]
theorem shT_at {w : Nat} (h4 : 4 ≤ w) (h8 : w < 8) (k : Int) : ([[.int k, .int 0], [.int 0, .int k], [.int k, .int (-k)], [.int k, .int k]] : List (List V))[w - 4]? = some (shT w k) := by
  have h : w = 4 ∨ w = 5 ∨ w = 6 ∨ w = 7 := by omega
  rcases h with rfl | rfl | rfl | rfl <;> rfl
theorem ok_has (C_is_symmetry : Cal P w K mg base 3 "is_symmetry" ["n", "p", "way", "a", "b"] (spIs K)) {f : Addr} {fd : FuncData} (F : Fun K "has_mirror" "has_mirror" s_has_mirror f fd) (m_range : mg "range" = none) : FnOk P w K mg base CX0 4 f fd ["n", "p", "way"] (spHas K) := by
  obtain ⟨f_is_symmetry, fd_is_symmetry, G_is_symmetry, kp_is_symmetry, b_is_symmetry, g_is_symmetry⟩ := C_is_symmetry
  refine F.ok sc_has_mirror (fun vs H Q E h => ?_) (fun cdv A outer s H vs Q E hr h => ?_)
  · obtain ⟨ad, n, c, w, rfl, _⟩ := h
    rfl
  · obtain ⟨ad, n, c, w, rfl, hS, R, h4, h8, q⟩ := h
    have n1 := R.lo
    have n6 := R.hi
    refine ⟨_,
      (pss_cons (ps_for PassesOwn.never rfl (pi_range1 rfl m_range (pa_cons (pv 0) pa_nil)) (pg_name (i := 3) sc_has_mirror.nd rfl (Or.inl rfl))
            (pss_cons (ps_set (i := 4) sc_has_mirror.nd rfl (Or.inl rfl) (pe_ix ix_tup (pe_tup (pa_cons (pe_tup (pa_cons (pv 3) (pa_cons pe_int pa_nil))) (pa_cons (pe_tup (pa_cons pe_int (pa_cons (pv 3) pa_nil))) (pa_cons (pe_tup (pa_cons (pv 3) (pa_cons (pe_un un_neg (pv 3)) pa_nil))) (pa_cons (pe_tup (pa_cons (pv 3) (pa_cons (pv 3) pa_nil))) pa_nil))))) (pe_op op_sub (pv 2) pe_int) (fun _ _ => rfl)))
          (pss_one (ps_if (pt_val (pe_call G_is_symmetry (hr.mono (by decide)) (by rfl) g_is_symmetry kp_is_symmetry b_is_symmetry .nil pass0 (pa_cons (pv 0) (pa_cons (pv 1) (pa_cons (pv 2) (pa_cons (pe_ix ix_tup (pv 4) pe_int (fun _ _ => rfl)) (pa_cons (pe_ix ix_tup (pv 4) pe_int (fun _ _ => rfl)) pa_nil))))))) (pss_one (ps_ret pe_bl)) pss_nil))))
          (pss_one (ps_ret pe_bl)))
      , ?_⟩
    refine q_forR1 (n := (n : Int)) (ea_cons (ev_var rfl) ea_nil) ⟨by omega, by omega⟩
      (fun i σ' H' => ∃ s3 s4, σ' = [some (.int n), some (.ref ad), some (.int w), s3, s4] ∧ Ex H H' ∧ ∀ k : Nat, k < i → Sa48Neutral.sym (Pt n c) w (KM.shx w (k : Int)) (KM.shy w (k : Int)) = false)
      (fun H1 e => ⟨none, none, rfl, e, fun k hk => absurd hk (Nat.not_lt_zero k)⟩) ?_ ?_
    · rintro i σ' H' hi ⟨s3, s4, rfl, e1, hp⟩
      have two : ∀ {a b : V}, ([a, b] : List V).length ≤ 100000 := fun {a b} => by show 2 ≤ 100000; decide
      refine q_asgR (xs := shT w (i : Int)) (er_ix (j := w - 4) (eau_cons (eu_tup (ea_cons (ev_var rfl) (ea_cons ev_c ea_nil)) two) (eau_cons (eu_tup (ea_cons ev_c (ea_cons (ev_var rfl) ea_nil)) two) (eau_cons (eu_tup (ea_cons (ev_var rfl) (ea_cons (ev_un (ev_var rfl) ru_neg) ea_nil)) two) (eau_cons (eu_tup (ea_cons (ev_var rfl) (ea_cons (ev_var rfl) ea_nil)) two) eau_nil))))
        (by show 4 ≤ 100000; decide) (ev_op (ev_var rfl) ev_c rv_I0) (by omega) (shT_at h4 h8 (i : Int))) fun p H1 e2 hp2 => ?_
      refine s_when (b := Sa48Neutral.sym (Pt n c) w (KM.shx w (i : Int)) (KM.shy w (i : Int))) (et_B (ev_call (ea_cons (ev_var rfl) (ea_cons (ev_var rfl) (ea_cons (ev_var rfl) (ea_cons (ev_op (ev_var rfl) ev_c (rv_ixT (v := .int (KM.shx w (i : Int))) (st_of hp2) (atI_nat (j := 0) rfl))) (ea_cons (ev_op (ev_var rfl) ev_c (rv_ixT (v := .int (KM.shy w (i : Int))) (st_of hp2) (atI_nat (j := 1) rfl))) ea_nil))))) (spIs_V (ex_l (e1.trans e2) hS) R h8))) ?_ ?_
      · intro hb H3 e3
        refine s_ret ev_c fun H4 e4 => ?_
        have z := q H4 (((e1.trans e2).trans e3).trans e4)
        rw [(KM.hasMirror_iff ⟨h4, h8⟩).mpr ⟨i, by show i < n; omega, hb⟩] at z
        exact z
      · intro hb H3 e3
        refine ⟨_, _, rfl, (e1.trans e2).trans e3, fun k hk => ?_⟩
        rcases Nat.lt_succ_iff_lt_or_eq.mp hk with h | rfl
        · exact hp k h
        · exact hb
    · rintro σ' H' ⟨s3, s4, rfl, e1, hp⟩
      refine s_ret ev_c fun H4 e4 => ?_
      have z := q H4 (e1.trans e4)
      have hf : Sa48Neutral.hasMirror (Pt n c) w = false := by
        rw [← Bool.not_eq_true, KM.hasMirror_iff ⟨h4, h8⟩]
        rintro ⟨k, hk, hs⟩
        have hk' : k < n := hk
        rw [hp k (by omega)] at hs
        cases hs
      rw [hf] at z
      exact z
theorem spHas_V {H : Hp} {ad : Addr} {n : Nat} {c : List Int} {w : Nat} (hS : SqL K H ad (c.map V.int)) (R : Rq n c) (h4 : 4 ≤ w) (h8 : w < 8) : SpV (spHas K) ([.int n, .ref ad, .int w] ++ []) H (.bl (Sa48Neutral.hasMirror (Pt n c) w)) :=
  fun _ e _ q _ => ⟨ad, n, c, w, rfl, ex_l e hS, R, h4, h8, fun H2 e2 => q H2 e2⟩
/-! ### is_mirror_through -/
def spMT (K : PySem.W.Frag) : Sp := fun vs H Q _ => ∃ (ad : Addr) (n : Nat) (c : List Int) (w : Nat) (x y : Int), vs = [.int n, .ref ad, .int w, .int x, .int y] ∧ SqL K H ad (c.map V.int) ∧ Rq n c ∧ w < 8 ∧
  ∀ H', Ex H H' → Q (.bl (KM.isMT (Pt n c) w x y)) H'
theorem ok_mt (C_turned : Cal P w K mg base 1 "turned" ["way", "x", "y"] spTurned) (C_is_symmetry : Cal P w K mg base 3 "is_symmetry" ["n", "p", "way", "a", "b"] (spIs K)) {f : Addr} {fd : FuncData} (F : Fun K "is_mirror_through" "is_mirror_through" s_is_mirror_through f fd) : FnOk P w K mg base CX0 4 f fd ["n", "p", "way", "x", "y"] (spMT K) := by
  obtain ⟨f_turned, fd_turned, G_turned, kp_turned, b_turned, g_turned⟩ := C_turned
  obtain ⟨f_is_symmetry, fd_is_symmetry, G_is_symmetry, kp_is_symmetry, b_is_symmetry, g_is_symmetry⟩ := C_is_symmetry
  refine F.ok sc_is_mirror_through (fun vs H Q E h => ?_) (fun cdv A outer s H vs Q E hr h => ?_)
  · obtain ⟨ad, n, c, w, x, y, rfl, _⟩ := h
    rfl
  · obtain ⟨ad, n, c, w, x, y, rfl, hS, R, hw, q⟩ := h
    have n1 := R.lo
    have n6 := R.hi
    refine ⟨_,
      (pss_cons (ps_set (i := 5) sc_is_mirror_through.nd rfl (Or.inl rfl) (pe_call G_turned (hr.mono (by decide)) (by rfl) g_turned kp_turned b_turned .nil pass0 (pa_cons (pv 2) (pa_cons (pv 3) (pa_cons (pv 4) pa_nil)))))
          (pss_cons (ps_set (i := 6) sc_is_mirror_through.nd rfl (Or.inl rfl) (pe_op op_sub (pv 3) (pe_ix ix_tup (pv 5) pe_int (fun _ _ => rfl))))
          (pss_cons (ps_set (i := 7) sc_is_mirror_through.nd rfl (Or.inl rfl) (pe_op op_sub (pv 4) (pe_ix ix_tup (pv 5) pe_int (fun _ _ => rfl))))
          (pss_cons (ps_if (PW.pt (pw_or (pt_cmpR op_ne (pe_op op_mod (pv 6) pe_int) pe_int (nomark _)) (pw_or1 (pt_cmpR op_ne (pe_op op_mod (pv 7) pe_int) pe_int (nomark _))))) (pss_one (ps_ret pe_bl)) pss_nil)
          (pss_one (ps_ret (pe_call G_is_symmetry (hr.mono (by decide)) (by rfl) g_is_symmetry kp_is_symmetry b_is_symmetry .nil pass0 (pa_cons (pv 0) (pa_cons (pv 1) (pa_cons (pv 2) (pa_cons (pe_op op_fdiv (pv 6) pe_int) (pa_cons (pe_op op_fdiv (pv 7) pe_int) pa_nil))))))))))))
      , ?_⟩
    refine q_asgR (er_call (ea_cons (ev_var rfl) (ea_cons (ev_var rfl) (ea_cons (ev_var rfl) ea_nil))) (xs := tI w x y) fun H1 e1 Q q E => ⟨w, x, y, rfl, hw, fun p H2 e2 h2 => q p H2 e2 h2⟩) fun p H1 e1 hp => ?_
    refine q_asg (ev_op (ev_var rfl) (ev_op (ev_var rfl) ev_c (rv_ixT (v := .int (Sa48.turned w x y).1) (st_of hp) (atI_nat (j := 0) rfl))) rv_I0) fun H2 e2 => ?_
    refine q_asg (ev_op (ev_var rfl) (ev_op (ev_var rfl) ev_c (rv_ixT (v := .int (Sa48.turned w x y).2) (st_of (e2 _ _ hp)) (atI_nat (j := 1) rfl))) rv_I0) fun H3 e3 => ?_
    have e13 := (e1.trans e2).trans e3
    refine q_when (b := !decide (V.int ((x - (Sa48.turned w x y).1) % 2) = V.int 0) || !decide (V.int ((y - (Sa48.turned w x y).2) % 2) = V.int 0))
      (et_or (et_test (ev_op (ev_op (ev_var rfl) ev_c (rv_I (by show (0 : Int) < 2; decide))) ev_c (rv_ne rfl))) fun _ => et_test (ev_op (ev_op (ev_var rfl) ev_c (rv_I (by show (0 : Int) < 2; decide))) ev_c (rv_ne rfl))) ?_ ?_
    · intro hb H4 e4
      refine s_ret ev_c fun H5 e5 => ?_
      have z := q H5 ((e13.trans e4).trans e5)
      have hf : KM.isMT (Pt n c) w x y = false := by
        unfold KM.isMT
        by_cases h1 : (x - (Sa48.turned w x y).1) % 2 = 0
        · by_cases h2 : (y - (Sa48.turned w x y).2) % 2 = 0
          · rw [h1, h2] at hb
            simp at hb
          · rw [beq_false_of_ne h2, Bool.false_and, Bool.and_false]
        · rw [beq_false_of_ne h1, Bool.false_and]
      rw [hf] at z
      exact z
    · intro hb H4 e4
      rw [Bool.or_eq_false_iff, Bool.not_eq_false', Bool.not_eq_false', decide_eq_true_iff, decide_eq_true_iff] at hb
      have h1 := V.int.inj hb.1
      have h2 := V.int.inj hb.2
      refine s_ret (ev_call (ea_cons (ev_var rfl) (ea_cons (ev_var rfl) (ea_cons (ev_var rfl) (ea_cons (ev_op (ev_var rfl) ev_c (rv_I ⟨by decide, by decide⟩)) (ea_cons (ev_op (ev_var rfl) ev_c (rv_I ⟨by decide, by decide⟩)) ea_nil))))) (spIs_V (ex_l (e13.trans e4) hS) R hw)) fun H5 e5 => ?_
      have z := q H5 ((e13.trans e4).trans e5)
      unfold KM.isMT at z
      rw [h1, h2] at z
      exact z
theorem spMT_V {H : Hp} {ad : Addr} {n : Nat} {c : List Int} {w : Nat} {x y : Int} (hS : SqL K H ad (c.map V.int)) (R : Rq n c) (hw : w < 8) : SpV (spMT K) ([.int n, .ref ad, .int w, .int x, .int y] ++ []) H (.bl (KM.isMT (Pt n c) w x y)) :=
  fun _ e _ q _ => ⟨ad, n, c, w, x, y, rfl, ex_l e hS, R, hw, fun H2 e2 => q H2 e2⟩
/-! ### marks_of_ways -/
def mks (p : Sa48.Pat) (k : Nat) : List V := ((List.range k).map fun a => ((KM.mark p a : Nat) : Int)).map V.int
theorem mks_succ (p : Sa48.Pat) (k : Nat) : mks p (k + 1) = mks p k ++ [.int (KM.mark p k : Nat)] := by
  unfold mks
  rw [List.range_succ, List.map_append, List.map_append]
  rfl
theorem mks_len (p : Sa48.Pat) (k : Nat) : (mks p k).length = k := by
  unfold mks
  rw [List.length_map, List.length_map, List.length_range]
/-- the symmetries, as they are handed on -/
structure Fo (K : PySem.W.Frag) (H : Hp) (ad lf : Addr) (n : Nat) (c : List Int) (fs : List V) : Prop where
  sq : SqL K H ad (c.map V.int)
  rq : Rq n c
  is : H lf = some (.lst fs)
  tf : Tups H fs ((syms (Pt n c)).map tri)
theorem Fo.mono {H H' : Hp} {ad lf : Addr} {n : Nat} {c : List Int} {fs : List V} (h : Fo K H ad lf n c fs) (e : Ex H H') : Fo K H' ad lf n c fs := ⟨ex_l e h.sq, h.rq, e _ _ h.is, h.tf.mono e⟩
def spMarks (K : PySem.W.Frag) : Sp := fun vs H Q _ => ∃ (ad lf : Addr) (n : Nat) (c : List Int) (fs : List V), vs = [.int n, .ref ad, .ref lf] ∧ Fo K H ad lf n c fs ∧ RetL (mks (Pt n c) 8) H Q
theorem ways_in {p : Sa48.Pat} {fs : List V} {k : Nat} {v : Nat → V} (hl : fs.length = (syms p).length) (hv : ∀ i m, (syms p)[i]? = some m → v i = .int (m.1 : Int)) : inV (.int (k : Int)) (given fs.length (fun _ => true) v) = Sa48Neutral.has p k ∨ 8 ≤ k := by
  by_cases hk : k < 8
  · left
    rw [Bool.eq_iff_iff, KM.has_iff]
    unfold inV given
    rw [List.any_eq_true]
    constructor
    · rintro ⟨x, hx, he⟩
      rw [List.mem_map] at hx
      obtain ⟨i, hi, rfl⟩ := hx
      have hi' := List.mem_range.mp (List.mem_filter.mp hi).1
      have hm : (syms p)[i]? = some (syms p)[i] := List.getElem?_eq_getElem (by omega)
      rw [hv i _ hm] at he
      have ek : (((syms p)[i].1 : Nat) : Int) = (k : Int) := by
        have z := he
        unfold eqV at z
        exact of_decide_eq_true z
      have ek' := Int.ofNat.inj ek
      obtain ⟨h1, h2, h3, h4⟩ := mem_syms.mp (List.mem_of_getElem? hm)
      rw [ek'] at h4
      exact ⟨_, _, h2, h3, h4⟩
    · rintro ⟨a, b, ha, hb, hs⟩
      have hm : (k, a, b) ∈ syms p := mem_syms.mpr ⟨hk, ha, hb, hs⟩
      obtain ⟨i, hi, he⟩ := List.getElem_of_mem hm
      refine ⟨v i, List.mem_map.mpr ⟨i, List.mem_filter.mpr ⟨List.mem_range.mpr (by omega), rfl⟩, rfl⟩, ?_⟩
      rw [hv i (k, a, b) (by rw [List.getElem?_eq_getElem hi, he])]
      unfold eqV
      exact decide_eq_true rfl
  · right
    omega
theorem flat_given (n : Nat) (f : Nat → Bool) (v : Nat → V) (hv : ∀ i, i < n → flatV (v i) = true) : (given n f v).all flatV = true := by
  unfold given
  rw [List.all_eq_true]
  intro x hx
  rw [List.mem_map] at hx
  obtain ⟨i, hi, rfl⟩ := hx
  exact hv i (List.mem_range.mp (List.mem_filter.mp hi).1)
theorem ok_marks (C_has_mirror : Cal P w K mg base 4 "has_mirror" ["n", "p", "way"] (spHas K)) {f : Addr} {fd : FuncData} (F : Fun K "marks_of_ways" "marks_of_ways" s_marks_of_ways f fd) (m_range : mg "range" = none) : FnOk P w K mg base CX0 5 f fd ["n", "p", "found"] (spMarks K) := by
  obtain ⟨f_has_mirror, fd_has_mirror, G_has_mirror, kp_has_mirror, b_has_mirror, g_has_mirror⟩ := C_has_mirror
  refine F.ok sc_marks_of_ways (fun vs H Q E h => ?_) (fun cdv A outer s H vs Q E hr h => ?_)
  · obtain ⟨ad, lf, n, c, fs, rfl, _⟩ := h
    rfl
  · obtain ⟨ad, lf, n, c, fs, rfl, fo, q⟩ := h
    have R := fo.rq
    have n1 := R.lo
    have n6 := R.hi
    have nn : n * n ≤ 36 := Nat.mul_le_mul n6 n6
    have fl : fs.length = (syms (Pt n c)).length := by rw [fo.tf.len, List.length_map]
    have fz : fs.length ≤ 8 * (n * n) := by rw [fl]; exact syms_len (Pt n c)
    refine ⟨_,
      (pss_cons (ps_setLc (i := 3) (own := [("movement", 6)]) rfl sc_marks_of_ways.nd rfl rfl (sw_true rfl rfl rfl (by decide +kernel)) (pi_list (pv 2)) (blkOk_by (own := [("movement", 6)]) (N := ["n", "p", "found", "ways", "marks", "way", "movement"]) (sc := defScope s_marks_of_ways) (by decide +kernel)) (fun _ _ _ _ _ => (pg_name (i := 6) sc_marks_of_ways.nd rfl (Or.inl rfl) (Or.inr rfl))) (fun _ _ _ _ _ => pts_nil) (fun _ _ _ _ _ => (pe_ix (show IxR _ (rIxT K) from ix_tup) (pv 6) pe_int (fun _ _ => rfl))))
          (pss_cons (ps_set (i := 4) sc_marks_of_ways.nd rfl (Or.inl rfl) (pe_lst pa_nil))
          (pss_cons (ps_for PassesOwn.never rfl (pi_range1 rfl m_range (pa_cons pe_int pa_nil)) (pg_name (i := 5) sc_marks_of_ways.nd rfl (Or.inl rfl))
            (pss_one (ps_if (pt_cmpR op_notIn_seq (pv 5) (pv 3) rfl) (pss_one (ps_expr (pe_bm PySem.F.plainAttrs_list PySem.F.slot_list_append PySem.F.type_list_append mt_append (pv 4) (pa_cons pe_int pa_nil)))) (pss_one (ps_if (PW.pt (pw_and (pt_cmpR op_ge (pv 5) pe_int (nomark _)) (pw_and1 (pt_val (pe_call G_has_mirror (hr.mono (by decide)) (by rfl) g_has_mirror kp_has_mirror b_has_mirror .nil pass0 (pa_cons (pv 0) (pa_cons (pv 1) (pa_cons (pv 5) pa_nil)))))))) (pss_one (ps_expr (pe_bm PySem.F.plainAttrs_list PySem.F.slot_list_append PySem.F.type_list_append mt_append (pv 4) (pa_cons pe_int pa_nil)))) (pss_one (ps_expr (pe_bm PySem.F.plainAttrs_list PySem.F.slot_list_append PySem.F.type_list_append mt_append (pv 4) (pa_cons pe_int pa_nil)))))))))
          (pss_one (ps_ret (pv 4))))))
      , ?_⟩
    let v : Nat → V := fun i => .int ((((syms (Pt n c))[i]?).getD (0, 0, 0)).1 : Nat)
    have hv : ∀ i m, (syms (Pt n c))[i]? = some m → v i = .int (m.1 : Int) := fun i m hm => by
      show V.int ((((syms (Pt n c))[i]?).getD (0, 0, 0)).1 : Nat) = _
      rw [hm]
      rfl
    refine q_asgL (el_lcL (fun _ => true) v (ev_var rfl) (sq_of fo.is) (by omega) (fun _ => rfl) (fun i x H1 e1 hx => fun H2 e2 Q q => q H2 (Ex.refl H2)) (fun i x H1 e1 hx _ => ?_)) fun lw H1 hw1 e1 h1 => ?_
    · obtain ⟨zs, ta, hz, rfl, hta⟩ := (fo.tf.mono e1).get hx
      rw [List.getElem?_map] at hz
      obtain ⟨m3, hm3, rfl⟩ := Option.map_eq_some_iff.mp hz
      rw [hv i m3 hm3]
      exact ev_op (ev_var rfl) ev_c (rv_ixT (v := .int (m3.1 : Int)) (st_of hta) (atI_nat (j := 0) rfl))
    refine q_asgL (el_lst ea_nil (by show 0 ≤ 100000; decide)) fun l H2 hl e2 h2 => ?_
    have lwf : (given fs.length (fun _ => true) v).all flatV = true := flat_given _ _ _ fun i _ => rfl
    refine q_forR1 (n := 8) (ea_cons ev_c ea_nil) ⟨by omega, by omega⟩
      (fun k σ' H' => ∃ s5 s6, σ' = [some (.int n), some (.ref ad), some (.ref lf), some (.ref lw), some (.ref l), s5, s6] ∧ Ex H1 H' ∧ H' l = some (.lst (mks (Pt n c) k)))
      (fun H3 e3 => ⟨none, none, rfl, e2.trans e3, e3 _ _ h2⟩) ?_ ?_
    · rintro k σ' H' hk ⟨s5, s6, rfl, e3, h3⟩
      have hk8 : k < 8 := by omega
      have hin := (ways_in (p := Pt n c) (k := k) fl hv).resolve_right (by omega)
      have kl : (mks (Pt n c) k).length < 100000 := by rw [mks_len]; omega
      have step : ∀ (z : Int) H4, Ex H' H4 → z = ((KM.mark (Pt n c) k : Nat) : Int) → ∀ H5, Ex H4 H5 → ∃ s5' s6', [some (V.int n), some (.ref ad), some (.ref lf), some (.ref lw), some (.ref l), some (.int k), s6] = [some (V.int n), some (.ref ad), some (.ref lf), some (.ref lw), some (.ref l), s5', s6'] ∧ Ex H1 (upd H5 l (.lst (mks (Pt n c) k ++ [.int z]))) ∧ (upd H5 l (.lst (mks (Pt n c) k ++ [.int z]))) l = some (.lst (mks (Pt n c) (k + 1))) := fun z H4 e4 ez H5 e5 =>
        ⟨_, _, rfl, ((e3.trans e4).trans e5).mut hl, by rw [upd_same, ez, mks_succ]⟩
      refine s_if (b := !Sa48Neutral.has (Pt n c) k) (et_is (et_test (ev_op (ev_var rfl) (ev_var rfl) (rv_niL (sq_of (e3 _ _ h1)) rfl lwf))) (by rw [hin])) ?_ ?_
      · intro hb H4 e4
        rw [Bool.not_eq_true'] at hb
        refine s_app (e4 _ _ h3) (ev_var rfl) ev_c kl fun H5 e5 => step 0 H4 e4 ?_ H5 e5
        unfold KM.mark
        rw [if_pos hb]
        rfl
      · intro hb H4 e4
        rw [Bool.not_eq_false'] at hb
        refine s_if (b := decide ((4 : Int) ≤ (k : Int)) && Sa48Neutral.hasMirror (Pt n c) k) (et_and (et_test (ev_op (ev_var rfl) ev_c rv_I0)) fun h => et_B (ev_call (ea_cons (ev_var rfl) (ea_cons (ev_var rfl) (ea_cons (ev_var rfl) ea_nil))) (spHas_V (ex_l (e1.trans (e3.trans e4)) fo.sq) R (by have := of_decide_eq_true h; omega) hk8))) ?_ ?_
        · intro hb2 H5 e5
          rw [Bool.and_eq_true, decide_eq_true_iff] at hb2
          refine s_app ((e4.trans e5) _ _ h3) (ev_var rfl) ev_c kl fun H6 e6 => step 2 H5 (e4.trans e5) ?_ H6 e6
          unfold KM.mark
          rw [if_neg (by rw [hb]; decide), if_pos ⟨by omega, hb2.2⟩]
          rfl
        · intro hb2 H5 e5
          rw [Bool.and_eq_false_iff, decide_eq_false_iff_not] at hb2
          refine s_app ((e4.trans e5) _ _ h3) (ev_var rfl) ev_c kl fun H6 e6 => step 1 H5 (e4.trans e5) ?_ H6 e6
          unfold KM.mark
          rw [if_neg (by rw [hb]; decide), if_neg]
          · rfl
          · rintro ⟨z1, z2⟩
            rcases hb2 with y | y
            · omega
            · rw [z2] at y
              cases y
    · rintro σ' H' ⟨s5, s6, rfl, e3, h3⟩
      refine s_ret (ev_var rfl) fun H4 e4 => ?_
      exact q l H4 (fresh_back e1 hl) ((e1.trans e3).trans e4) (e4 _ _ h3)
/-! ### all_are_on_mirrors -/
def onB (p : Sa48.Pat) (m : M3) : Bool := KM.isMT p m.1 (m.2.1 : Int) (m.2.2 : Int) && KM.isMT p m.1 ((m.2.1 : Int) + (p.n : Int)) (m.2.2 : Int)
def overs (p : Sa48.Pat) : List M3 := (syms p).filter fun m => decide ((4 : Int) ≤ (m.1 : Int))
def allB (p : Sa48.Pat) : Bool := (overs p).all (onB p)
theorem allB_iff {p : Sa48.Pat} : allB p = true ↔ KM.AllOn1 p := by
  unfold allB overs
  rw [List.all_eq_true]
  constructor
  · intro h a h4 h8 u v hu hv hs
    have z := h (a, u, v) (List.mem_filter.mpr ⟨mem_syms.mpr ⟨h8, hu, hv, hs⟩, decide_eq_true (by show (4 : Int) ≤ (a : Int); omega)⟩)
    unfold onB at z
    rw [Bool.and_eq_true] at z
    exact z
  · intro h m hm
    rw [List.mem_filter, mem_syms, decide_eq_true_iff] at hm
    obtain ⟨⟨h8, hu, hv, hs⟩, h4⟩ := hm
    unfold onB
    rw [Bool.and_eq_true]
    exact h m.1 (by omega) h8 m.2.1 m.2.2 hu hv hs
def spAll (K : PySem.W.Frag) : Sp := fun vs H Q _ => ∃ (ad lf : Addr) (n : Nat) (c : List Int) (fs : List V), vs = [.int n, .ref ad, .ref lf] ∧ Fo K H ad lf n c fs ∧ ∀ H', Ex H H' → Q (.bl (allB (Pt n c))) H'
/-- what a test on the first number keeps -/
def fst0 (p : Sa48.Pat) (q : M3 → Bool) (i : Nat) : Bool := match (syms p)[i]? with
  | some m => q m
  | none => false
theorem ok_all (C_is_mirror_through : Cal P w K mg base 4 "is_mirror_through" ["n", "p", "way", "x", "y"] (spMT K)) {f : Addr} {fd : FuncData} (F : Fun K "all_are_on_mirrors" "all_are_on_mirrors" s_all_are_on_mirrors f fd) : FnOk P w K mg base CX0 5 f fd ["n", "p", "found"] (spAll K) := by
  obtain ⟨f_is_mirror_through, fd_is_mirror_through, G_is_mirror_through, kp_is_mirror_through, b_is_mirror_through, g_is_mirror_through⟩ := C_is_mirror_through
  refine F.ok sc_all_are_on_mirrors (fun vs H Q E h => ?_) (fun cdv A outer s H vs Q E hr h => ?_)
  · obtain ⟨ad, lf, n, c, fs, rfl, _⟩ := h
    rfl
  · obtain ⟨ad, lf, n, c, fs, rfl, fo, q⟩ := h
    have R := fo.rq
    have n1 := R.lo
    have n6 := R.hi
    have nn : n * n ≤ 36 := Nat.mul_le_mul n6 n6
    have fl : fs.length = (syms (Pt n c)).length := by rw [fo.tf.len, List.length_map]
    have fz : fs.length ≤ 8 * (n * n) := by rw [fl]; exact syms_len (Pt n c)
    refine ⟨_,
      (pss_cons (ps_setLc (i := 3) (own := [("movement", 8)]) rfl sc_all_are_on_mirrors.nd rfl rfl (sw_true rfl rfl rfl (by decide +kernel)) (pi_list (pv 2)) (blkOk_by (own := [("movement", 8)]) (N := ["n", "p", "found", "over", "way", "a", "b", "longer", "movement"]) (sc := defScope s_all_are_on_mirrors) (by decide +kernel)) (fun _ _ _ _ _ => (pg_name (i := 8) sc_all_are_on_mirrors.nd rfl (Or.inl rfl) (Or.inr rfl))) (fun _ _ _ _ _ => (pts_one (pt_cmpR op_ge (pe_ix (show IxR _ (rIxT K) from ix_tup) (pv 8) pe_int (fun _ _ => rfl)) pe_int (nomark _)))) (fun _ _ _ _ _ => (pv 8)))
          (pss_cons (ps_for PassesOwn.never rfl (pi_list (pv 3)) (pg_tup rfl (pgs_cons (pg_name (i := 4) sc_all_are_on_mirrors.nd rfl (Or.inl rfl)) (pgs_cons (pg_name (i := 5) sc_all_are_on_mirrors.nd rfl (Or.inl rfl)) (pgs_cons (pg_name (i := 6) sc_all_are_on_mirrors.nd rfl (Or.inl rfl)) pgs_nil))))
            (pss_one (ps_for PassesOwn.never rfl (pi_tup (pe_tup (pa_cons (pv 5) (pa_cons (pe_op op_add (pv 5) (pv 0)) pa_nil)))) (pg_name (i := 7) sc_all_are_on_mirrors.nd rfl (Or.inl rfl))
            (pss_one (ps_if (pt_not (pt_val (pe_call G_is_mirror_through (hr.mono (by decide)) (by rfl) g_is_mirror_through kp_is_mirror_through b_is_mirror_through .nil pass0 (pa_cons (pv 0) (pa_cons (pv 1) (pa_cons (pv 4) (pa_cons (pv 7) (pa_cons (pv 6) pa_nil)))))))) (pss_one (ps_ret pe_bl)) pss_nil)))))
          (pss_one (ps_ret pe_bl))))
      , ?_⟩
    refine q_asgL (el_lcL (fst0 (Pt n c) fun m => decide ((4 : Int) ≤ (m.1 : Int))) (fun i => (fs[i]?).getD .non) (ev_var rfl) (sq_of fo.is) (by omega) (fun _ => rfl) (fun i x H1 e1 hx => ?_) (fun i x H1 e1 hx _ => ?_)) fun lo H1 hw1 e1 h1 => ?_
    · obtain ⟨zs, ta, hz, rfl, hta⟩ := (fo.tf.mono e1).get hx
      rw [List.getElem?_map] at hz
      obtain ⟨m3, hm3, rfl⟩ := Option.map_eq_some_iff.mp hz
      have ef : fst0 (Pt n c) (fun m => decide ((4 : Int) ≤ (m.1 : Int))) i = decide ((4 : Int) ≤ (m3.1 : Int)) := by
        unfold fst0
        rw [hm3]
      rw [ef]
      exact et_test (ev_op (ev_op (ev_var rfl) ev_c (rv_ixT (v := .int (m3.1 : Int)) (st_of hta) (atI_nat (j := 0) rfl))) ev_c rv_I0)
    · rw [hx]
      exact ev_var rfl
    have to : Tups H1 (given fs.length (fst0 (Pt n c) fun m => decide ((4 : Int) ≤ (m.1 : Int))) fun i => (fs[i]?).getD .non) ((overs (Pt n c)).map tri) := given_all (fo.tf.mono e1) fun i m hm => by
      unfold fst0
      rw [hm]
    generalize hos : (given fs.length (fst0 (Pt n c) fun m => decide ((4 : Int) ≤ (m.1 : Int))) fun i => (fs[i]?).getD .non) = os at h1 to
    have ol : os.length = (overs (Pt n c)).length := by rw [to.len, List.length_map]
    refine q_forL (a := lo) (xs := os) (ev_var rfl) (sq_of h1)
      (fun i σ' H' => ∃ s4 s5 s6 s7 s8, σ' = [some (.int n), some (.ref ad), some (.ref lf), some (.ref lo), s4, s5, s6, s7, s8] ∧ Ex H1 H' ∧ ∀ j m, j < i → (overs (Pt n c))[j]? = some m → onB (Pt n c) m = true)
      (fun H2 e2 => ⟨_, _, _, _, _, rfl, e2, fun j m hj => absurd hj (Nat.not_lt_zero j)⟩)
      (fun i σ' H' _ hp => by
        obtain ⟨_, _, _, _, _, _, e2, _⟩ := hp
        exact sq_of (e2 _ _ h1)) ?_ ?_
    · rintro i x σ' H' hi ⟨s4, s5, s6, s7, s8, rfl, e2, hp⟩
      obtain ⟨zs, ta, hz, rfl, hta⟩ := (to.mono e2).get hi
      rw [List.getElem?_map] at hz
      obtain ⟨m3, hm3, rfl⟩ := Option.map_eq_some_iff.mp hz
      have hmem := List.mem_filter.mp (List.mem_of_getElem? hm3)
      obtain ⟨h8, hu, hv, hs⟩ := mem_syms.mp hmem.1
      refine ⟨ta, _, rfl, st_of hta, rfl, _, _, rfl, _, _, rfl, _, _, rfl, rfl, ?_⟩
      have no : ∀ (b : Bool), b = false → (onB (Pt n c) m3 = true → b = true) → ∀ H4, Ex H' H4 → Q (.bl false) H4 := fun b hb him H4 e4 => by
        have z := q H4 ((e1.trans e2).trans e4)
        have hf : allB (Pt n c) = false := by
          rw [← Bool.not_eq_true]
          intro y
          unfold allB at y
          have y1 := him (List.all_eq_true.mp y m3 (List.mem_of_getElem? hm3))
          rw [hb] at y1
          cases y1
        rw [hf] at z
        exact z
      refine s_forNT (K := K) (xs := [.int (m3.2.1 : Int), .int ((m3.2.1 : Int) + (n : Int))]) (eu_tup (ea_cons (ev_var rfl) (ea_cons (ev_op (ev_var rfl) (ev_var rfl) rv_I0) ea_nil)) (by show 2 ≤ 100000; decide))
        (fun p k σ' H2 => ∃ s7, σ' = [some (.int n), some (.ref ad), some (.ref lf), some (.ref lo), some (.int m3.1), some (.int m3.2.1), some (.int m3.2.2), s7, s8] ∧ Ex H' H2 ∧ H2 p = some (.tup [.int (m3.2.1 : Int), .int ((m3.2.1 : Int) + (n : Int))]) ∧
          (0 < k → KM.isMT (Pt n c) m3.1 (m3.2.1 : Int) (m3.2.2 : Int) = true) ∧ (1 < k → KM.isMT (Pt n c) m3.1 ((m3.2.1 : Int) + (n : Int)) (m3.2.2 : Int) = true))
        (fun p H2 _ e3 h3 => ⟨s7, rfl, e3, h3, fun z => absurd z (Nat.lt_irrefl 0), fun z => absurd z (by omega)⟩)
        (fun p k σ' H2 _ hp => by
          obtain ⟨_, _, _, h3, _⟩ := hp
          exact st_of h3) ?_ ?_
      · rintro p k x σ' H2 hk ⟨s7, rfl, e3, h3, hk0, hk1⟩
        have hx : (k = 0 ∧ x = .int (m3.2.1 : Int)) ∨ (k = 1 ∧ x = .int ((m3.2.1 : Int) + (n : Int))) := by
          match k, hk with
          | 0, hk => exact .inl ⟨rfl, (Option.some.inj hk).symm⟩
          | 1, hk => exact .inr ⟨rfl, (Option.some.inj hk).symm⟩
          | k + 2, hk => exact absurd hk (by simp)
        rcases hx with ⟨rfl, rfl⟩ | ⟨rfl, rfl⟩
        · refine s_when (b := !KM.isMT (Pt n c) m3.1 (m3.2.1 : Int) (m3.2.2 : Int)) (et_not (et_B (ev_call (ea_cons (ev_var rfl) (ea_cons (ev_var rfl) (ea_cons (ev_var rfl) (ea_cons (ev_var rfl) (ea_cons (ev_var rfl) ea_nil))))) (spMT_V (ex_l ((e1.trans e2).trans e3) fo.sq) R h8)))) ?_ ?_
          · intro hb H3 e4
            exact s_ret ev_c fun H4 e5 => no (KM.isMT (Pt n c) m3.1 (m3.2.1 : Int) (m3.2.2 : Int)) (by rw [Bool.not_eq_true'] at hb; exact hb) (fun y => by unfold onB at y; rw [Bool.and_eq_true] at y; exact y.1) H4 ((e3.trans e4).trans e5)
          · intro hb H3 e4
            rw [Bool.not_eq_false'] at hb
            exact ⟨_, rfl, e3.trans e4, e4 _ _ h3, fun _ => hb, fun z => absurd z (by omega)⟩
        · refine s_when (b := !KM.isMT (Pt n c) m3.1 ((m3.2.1 : Int) + (n : Int)) (m3.2.2 : Int)) (et_not (et_B (ev_call (ea_cons (ev_var rfl) (ea_cons (ev_var rfl) (ea_cons (ev_var rfl) (ea_cons (ev_var rfl) (ea_cons (ev_var rfl) ea_nil))))) (spMT_V (ex_l ((e1.trans e2).trans e3) fo.sq) R h8)))) ?_ ?_
          · intro hb H3 e4
            exact s_ret ev_c fun H4 e5 => no (KM.isMT (Pt n c) m3.1 ((m3.2.1 : Int) + (n : Int)) (m3.2.2 : Int)) (by rw [Bool.not_eq_true'] at hb; exact hb) (fun y => by unfold onB at y; rw [Bool.and_eq_true] at y; exact y.2) H4 ((e3.trans e4).trans e5)
          · intro hb H3 e4
            rw [Bool.not_eq_false'] at hb
            exact ⟨_, rfl, e3.trans e4, e4 _ _ h3, fun _ => hk0 (by omega), fun _ => hb⟩
      · rintro p σ' H2 ⟨s7, rfl, e3, h3, hk0, hk1⟩
        refine ⟨_, _, _, _, _, rfl, e2.trans e3, fun j m hj hm => ?_⟩
        rcases Nat.lt_succ_iff_lt_or_eq.mp hj with h | rfl
        · exact hp j m h hm
        · rw [hm3] at hm
          cases hm
          unfold onB
          rw [Bool.and_eq_true]
          exact ⟨hk0 (by show 0 < 2; decide), hk1 (by show 1 < 2; decide)⟩
    · rintro σ' H' ⟨s4, s5, s6, s7, s8, rfl, e2, hp⟩
      refine s_ret ev_c fun H4 e4 => ?_
      have z := q H4 ((e1.trans e2).trans e4)
      have ht : allB (Pt n c) = true := by
        unfold allB
        refine List.all_eq_true.mpr fun m hm => ?_
        obtain ⟨j, hj, he⟩ := List.getElem_of_mem hm
        exact hp j m (by omega) (by rw [List.getElem?_eq_getElem hj, he])
      rw [ht] at z
      exact z
theorem spAll_V {H : Hp} {ad lf : Addr} {n : Nat} {c : List Int} {fs : List V} (fo : Fo K H ad lf n c fs) : SpV (spAll K) ([.int n, .ref ad, .ref lf] ++ []) H (.bl (allB (Pt n c))) :=
  fun _ e _ q _ => ⟨ad, lf, n, c, fs, rfl, fo.mono e, fun H2 e2 => q H2 e2⟩
/-! ### some_turn_is_on_mirror -/
def turns (p : Sa48.Pat) : List M3 := (syms p).filter fun m => decide (V.int (m.1 : Int) = V.int 1)
def onAt (p : Sa48.Pat) (m : M3) (a : Nat) : Bool := KM.isMT p a ((m.2.1 : Int) - (m.2.2 : Int)) ((m.2.1 : Int) + (m.2.2 : Int))
def someB (p : Sa48.Pat) : Bool := (turns p).any fun m => (List.range 4).any fun a => onAt p m (4 + a)
theorem mem_turns {p : Sa48.Pat} {m : M3} : m ∈ turns p ↔ m ∈ syms p ∧ m.1 = 1 := by
  unfold turns
  rw [List.mem_filter, decide_eq_true_iff]
  constructor
  · rintro ⟨h1, h2⟩
    have h3 := V.int.inj h2
    exact ⟨h1, by omega⟩
  · rintro ⟨h1, h2⟩
    exact ⟨h1, by rw [h2]; rfl⟩
theorem someB_iff {p : Sa48.Pat} : someB p = true ↔ KM.TurnOn p := by
  unfold someB KM.TurnOn
  rw [List.any_eq_true]
  constructor
  · rintro ⟨m, hm, h⟩
    rw [List.any_eq_true] at h
    obtain ⟨a, ha, h⟩ := h
    have ha' := List.mem_range.mp ha
    obtain ⟨h1, h2⟩ := mem_turns.mp hm
    obtain ⟨h8, hu, hv, hs⟩ := mem_syms.mp h1
    rw [h2] at hs
    exact ⟨m.2.1, m.2.2, hu, hv, hs, 4 + a, by omega, by omega, h⟩
  · rintro ⟨u, v, hu, hv, hs, a, h4, h8, h⟩
    refine ⟨(1, u, v), mem_turns.mpr ⟨mem_syms.mpr ⟨by show 1 < 8; decide, hu, hv, hs⟩, rfl⟩, List.any_eq_true.mpr ⟨a - 4, List.mem_range.mpr (by omega), ?_⟩⟩
    have e : 4 + (a - 4) = a := by omega
    rw [e]
    exact h
def spSome (K : PySem.W.Frag) : Sp := fun vs H Q _ => ∃ (ad lf : Addr) (n : Nat) (c : List Int) (fs : List V), vs = [.int n, .ref ad, .ref lf] ∧ Fo K H ad lf n c fs ∧ ∀ H', Ex H H' → Q (.bl (someB (Pt n c))) H'
theorem ok_some (C_is_mirror_through : Cal P w K mg base 4 "is_mirror_through" ["n", "p", "way", "x", "y"] (spMT K)) {f : Addr} {fd : FuncData} (F : Fun K "some_turn_is_on_mirror" "some_turn_is_on_mirror" s_some_turn_is_on_mirror f fd) (m_range : mg "range" = none) : FnOk P w K mg base CX0 5 f fd ["n", "p", "found"] (spSome K) := by
  obtain ⟨f_is_mirror_through, fd_is_mirror_through, G_is_mirror_through, kp_is_mirror_through, b_is_mirror_through, g_is_mirror_through⟩ := C_is_mirror_through
  refine F.ok sc_some_turn_is_on_mirror (fun vs H Q E h => ?_) (fun cdv A outer s H vs Q E hr h => ?_)
  · obtain ⟨ad, lf, n, c, fs, rfl, _⟩ := h
    rfl
  · obtain ⟨ad, lf, n, c, fs, rfl, fo, q⟩ := h
    have R := fo.rq
    have n1 := R.lo
    have n6 := R.hi
    have nn : n * n ≤ 36 := Nat.mul_le_mul n6 n6
    have fl : fs.length = (syms (Pt n c)).length := by rw [fo.tf.len, List.length_map]
    have fz : fs.length ≤ 8 * (n * n) := by rw [fl]; exact syms_len (Pt n c)
    refine ⟨_,
      (pss_cons (ps_setLc (i := 3) (own := [("movement", 8)]) rfl sc_some_turn_is_on_mirror.nd rfl rfl (sw_true rfl rfl rfl (by decide +kernel)) (pi_list (pv 2)) (blkOk_by (own := [("movement", 8)]) (N := ["n", "p", "found", "turns", "turn", "a", "b", "way", "movement"]) (sc := defScope s_some_turn_is_on_mirror) (by decide +kernel)) (fun _ _ _ _ _ => (pg_name (i := 8) sc_some_turn_is_on_mirror.nd rfl (Or.inl rfl) (Or.inr rfl))) (fun _ _ _ _ _ => (pts_one (pt_cmpR op_eq (pe_ix (show IxR _ (rIxT K) from ix_tup) (pv 8) pe_int (fun _ _ => rfl)) pe_int (nomark _)))) (fun _ _ _ _ _ => (pv 8)))
          (pss_cons (ps_for PassesOwn.never rfl (pi_list (pv 3)) (pg_tup rfl (pgs_cons (pg_name (i := 4) sc_some_turn_is_on_mirror.nd rfl (Or.inl rfl)) (pgs_cons (pg_name (i := 5) sc_some_turn_is_on_mirror.nd rfl (Or.inl rfl)) (pgs_cons (pg_name (i := 6) sc_some_turn_is_on_mirror.nd rfl (Or.inl rfl)) pgs_nil))))
            (pss_one (ps_for PassesOwn.never rfl (pi_range2 rfl m_range (pa_cons pe_int (pa_cons pe_int pa_nil))) (pg_name (i := 7) sc_some_turn_is_on_mirror.nd rfl (Or.inl rfl))
            (pss_one (ps_if (pt_val (pe_call G_is_mirror_through (hr.mono (by decide)) (by rfl) g_is_mirror_through kp_is_mirror_through b_is_mirror_through .nil pass0 (pa_cons (pv 0) (pa_cons (pv 1) (pa_cons (pv 7) (pa_cons (pe_op op_sub (pv 5) (pv 6)) (pa_cons (pe_op op_add (pv 5) (pv 6)) pa_nil))))))) (pss_one (ps_ret pe_bl)) pss_nil)))))
          (pss_one (ps_ret pe_bl))))
      , ?_⟩
    refine q_asgL (el_lcL (fst0 (Pt n c) fun m => decide (V.int (m.1 : Int) = V.int 1)) (fun i => (fs[i]?).getD .non) (ev_var rfl) (sq_of fo.is) (by omega) (fun _ => rfl) (fun i x H1 e1 hx => ?_) (fun i x H1 e1 hx _ => ?_)) fun lo H1 hw1 e1 h1 => ?_
    · obtain ⟨zs, ta, hz, rfl, hta⟩ := (fo.tf.mono e1).get hx
      rw [List.getElem?_map] at hz
      obtain ⟨m3, hm3, rfl⟩ := Option.map_eq_some_iff.mp hz
      have ef : fst0 (Pt n c) (fun m => decide (V.int (m.1 : Int) = V.int 1)) i = decide (V.int (m3.1 : Int) = V.int 1) := by
        unfold fst0
        rw [hm3]
      rw [ef]
      exact et_test (ev_op (ev_op (ev_var rfl) ev_c (rv_ixT (v := .int (m3.1 : Int)) (st_of hta) (atI_nat (j := 0) rfl))) ev_c (rv_eq rfl))
    · rw [hx]
      exact ev_var rfl
    have to : Tups H1 (given fs.length (fst0 (Pt n c) fun m => decide (V.int (m.1 : Int) = V.int 1)) fun i => (fs[i]?).getD .non) ((turns (Pt n c)).map tri) := given_all (fo.tf.mono e1) fun i m hm => by
      unfold fst0
      rw [hm]
    generalize hos : (given fs.length (fst0 (Pt n c) fun m => decide (V.int (m.1 : Int) = V.int 1)) fun i => (fs[i]?).getD .non) = os at h1 to
    have ol : os.length = (turns (Pt n c)).length := by rw [to.len, List.length_map]
    refine q_forL (a := lo) (xs := os) (ev_var rfl) (sq_of h1)
      (fun i σ' H' => ∃ s4 s5 s6 s7 s8, σ' = [some (.int n), some (.ref ad), some (.ref lf), some (.ref lo), s4, s5, s6, s7, s8] ∧ Ex H1 H' ∧ ∀ j m, j < i → (turns (Pt n c))[j]? = some m → ∀ a, a < 4 → onAt (Pt n c) m (4 + a) = false)
      (fun H2 e2 => ⟨_, _, _, _, _, rfl, e2, fun j m hj => absurd hj (Nat.not_lt_zero j)⟩)
      (fun i σ' H' _ hp => by
        obtain ⟨_, _, _, _, _, _, e2, _⟩ := hp
        exact sq_of (e2 _ _ h1)) ?_ ?_
    · rintro i x σ' H' hi ⟨s4, s5, s6, s7, s8, rfl, e2, hp⟩
      obtain ⟨zs, ta, hz, rfl, hta⟩ := (to.mono e2).get hi
      rw [List.getElem?_map] at hz
      obtain ⟨m3, hm3, rfl⟩ := Option.map_eq_some_iff.mp hz
      have hmem := mem_turns.mp (List.mem_of_getElem? hm3)
      refine ⟨ta, _, rfl, st_of hta, rfl, _, _, rfl, _, _, rfl, _, _, rfl, rfl, ?_⟩
      refine s_forR2 (lo := 4) (n := 8) (ea_cons ev_c (ea_cons ev_c ea_nil)) ⟨by omega, by omega, by omega, by omega⟩
        (fun k σ' H2 => ∃ s7, σ' = [some (.int n), some (.ref ad), some (.ref lf), some (.ref lo), some (.int m3.1), some (.int m3.2.1), some (.int m3.2.2), s7, s8] ∧ Ex H' H2 ∧ ∀ a, a < k → onAt (Pt n c) m3 (4 + a) = false)
        (fun H2 e3 => ⟨s7, rfl, e3, fun a ha => absurd ha (Nat.not_lt_zero a)⟩) ?_ ?_
      · rintro k σ' H2 hk ⟨s7, rfl, e3, hq⟩
        have ek : (4 : Int) + (k : Int) = ((4 + k : Nat) : Int) := by omega
        rw [ek]
        refine s_when (b := onAt (Pt n c) m3 (4 + k)) (et_B (ev_call (ea_cons (ev_var rfl) (ea_cons (ev_var rfl) (ea_cons (ev_var rfl) (ea_cons (ev_op (ev_var rfl) (ev_var rfl) rv_I0) (ea_cons (ev_op (ev_var rfl) (ev_var rfl) rv_I0) ea_nil))))) (spMT_V (ex_l ((e1.trans e2).trans e3) fo.sq) R (by omega)))) ?_ ?_
        · intro hb H3 e4
          refine s_ret ev_c fun H4 e5 => ?_
          have z := q H4 ((((e1.trans e2).trans e3).trans e4).trans e5)
          have ht : someB (Pt n c) = true := by
            unfold someB
            exact List.any_eq_true.mpr ⟨m3, List.mem_of_getElem? hm3, List.any_eq_true.mpr ⟨k, List.mem_range.mpr (by omega), hb⟩⟩
          rw [ht] at z
          exact z
        · intro hb H3 e4
          refine ⟨_, rfl, e3.trans e4, fun a ha => ?_⟩
          rcases Nat.lt_succ_iff_lt_or_eq.mp ha with h | rfl
          · exact hq a h
          · exact hb
      · rintro σ' H2 ⟨s7, rfl, e3, hq⟩
        refine ⟨_, _, _, _, _, rfl, e2.trans e3, fun j m hj hm => ?_⟩
        rcases Nat.lt_succ_iff_lt_or_eq.mp hj with h | rfl
        · exact hp j m h hm
        · rw [hm3] at hm
          cases hm
          exact fun a ha => hq a (by omega)
    · rintro σ' H' ⟨s4, s5, s6, s7, s8, rfl, e2, hp⟩
      refine s_ret ev_c fun H4 e4 => ?_
      have z := q H4 ((e1.trans e2).trans e4)
      have hf : someB (Pt n c) = false := by
        rw [← Bool.not_eq_true]
        unfold someB
        rw [List.any_eq_true]
        rintro ⟨m, hm, y⟩
        rw [List.any_eq_true] at y
        obtain ⟨a, ha, y⟩ := y
        obtain ⟨j, hj, he⟩ := List.getElem_of_mem hm
        have y2 := hp j m (by omega) (by rw [List.getElem?_eq_getElem hj, he]) a (List.mem_range.mp ha)
        rw [y2] at y
        cases y
      rw [hf] at z
      exact z
theorem spSome_V {H : Hp} {ad lf : Addr} {n : Nat} {c : List Int} {fs : List V} (fo : Fo K H ad lf n c fs) : SpV (spSome K) ([.int n, .ref ad, .ref lf] ++ []) H (.bl (someB (Pt n c))) :=
  fun _ e _ q _ => ⟨ad, lf, n, c, fs, rfl, fo.mono e, fun H2 e2 => q H2 e2⟩
/-! ### kind_of_turn_.. -/
theorem cut4 (p : Sa48.Pat) : cutV (mks p 8) (some 4) none = (KM.m4 p).map V.int := rfl
theorem most_is (p : Sa48.Pat) : ∀ z, z ∈ KM.m4 p → (∀ y, y ∈ KM.m4 p → y ≤ z) → z = ((KM.most p : Nat) : Int) := by
  intro z hz hy
  have h4 := hy _ (show ((KM.mark p 4 : Nat) : Int) ∈ KM.m4 p by unfold KM.m4; simp)
  have h5 := hy _ (show ((KM.mark p 5 : Nat) : Int) ∈ KM.m4 p by unfold KM.m4; simp)
  have h6 := hy _ (show ((KM.mark p 6 : Nat) : Int) ∈ KM.m4 p by unfold KM.m4; simp)
  have h7 := hy _ (show ((KM.mark p 7 : Nat) : Int) ∈ KM.m4 p by unfold KM.m4; simp)
  have hz' : z = ((KM.mark p 4 : Nat) : Int) ∨ z = ((KM.mark p 5 : Nat) : Int) ∨ z = ((KM.mark p 6 : Nat) : Int) ∨ z = ((KM.mark p 7 : Nat) : Int) := by
    unfold KM.m4 at hz
    simpa using hz
  unfold KM.most
  omega
def spKind (K : PySem.W.Frag) (r : Sa48.Pat → Nat) : Sp := fun vs H Q _ => ∃ (ad lf lm : Addr) (n : Nat) (c : List Int) (fs : List V), vs = [.int n, .ref ad, .ref lf, .ref lm] ∧ Fo K H ad lf n c fs ∧ H lm = some (.lst (mks (Pt n c) 8)) ∧ ∀ H', Ex H H' → Q (.int (r (Pt n c) : Nat)) H'
theorem spKind_V {r : Sa48.Pat → Nat} {H : Hp} {ad lf lm : Addr} {n : Nat} {c : List Int} {fs : List V} (fo : Fo K H ad lf n c fs) (hm : H lm = some (.lst (mks (Pt n c) 8))) : SpV (spKind K r) ([.int n, .ref ad, .ref lf, .ref lm] ++ []) H (.int (r (Pt n c) : Nat)) :=
  fun _ e _ q _ => ⟨ad, lf, lm, n, c, fs, rfl, fo.mono e, e _ _ hm, fun H2 e2 => q H2 e2⟩
def k1 (p : Sa48.Pat) : Nat := KM.kind1 p (allB p)
def k2 (p : Sa48.Pat) : Nat := KM.kind2 p (allB p)
def k4 (p : Sa48.Pat) : Nat := KM.kind4 p (someB p)
theorem ev_most {σ : L2.St} {H : Hp} {te : TE} {tl th : TO} {lm : Addr} {p : Sa48.Pat} (hv : Ev te σ H (.ref lm)) (h1 : EvO tl σ H (some 4)) (h2 : EvO th σ H none) (hm : H lm = some (.lst (mks p 8))) : Ev (tCB (rMax K) (tCons (tSl (rSlL K) te tl th) tNil)) σ H (.int (KM.most p : Nat)) :=
  ev_max (ns := KM.m4 p) (by rw [← cut4]; exact el_sl hv h1 h2 (sq_of hm)) (by show 0 < 4; decide) (most_is p)
theorem int_dec {a b : Nat} : (decide (V.int (a : Int) = V.int (b : Int))) = decide (a = b) := by
  by_cases h : a = b
  · rw [h, decide_eq_true rfl, decide_eq_true rfl]
  · rw [decide_eq_false h, decide_eq_false]
    intro z
    exact h (Int.ofNat.inj (V.int.inj z))
theorem ok_k1 (C_all_are_on_mirrors : Cal P w K mg base 5 "all_are_on_mirrors" ["n", "p", "found"] (spAll K)) {f : Addr} {fd : FuncData} (F : Fun K "kind_of_turn_1" "kind_of_turn_1" s_kind_of_turn_1 f fd) (m_max : mg "max" = none) : FnOk P w K mg base CX0 6 f fd ["n", "p", "found", "marks"] (spKind K k1) := by
  obtain ⟨f_all_are_on_mirrors, fd_all_are_on_mirrors, G_all_are_on_mirrors, kp_all_are_on_mirrors, b_all_are_on_mirrors, g_all_are_on_mirrors⟩ := C_all_are_on_mirrors
  refine F.ok sc_kind_of_turn_1 (fun vs H Q E h => ?_) (fun cdv A outer s H vs Q E hr h => ?_)
  · obtain ⟨ad, lf, lm, n, c, fs, rfl, _⟩ := h
    rfl
  · obtain ⟨ad, lf, lm, n, c, fs, rfl, fo, hm, q⟩ := h
    refine ⟨_,
      (pss_cons (ps_set (i := 4) sc_kind_of_turn_1.nd rfl (Or.inl rfl) (pe_callB (cr_max rfl) (by rfl) m_max (by decide +kernel) (pa_cons (pe_slice sl_list (pv 3) (po_some pe_int) po_none) pa_nil)))
          (pss_cons (ps_if (pt_cmpR op_eq (pv 4) pe_int (nomark _)) (pss_one (ps_ret pe_int)) pss_nil)
          (pss_cons (ps_if (pt_cmpR op_eq (pv 4) pe_int (nomark _)) (pss_one (ps_ret pe_int)) pss_nil)
          (pss_cons (ps_if (pt_val (pe_call G_all_are_on_mirrors (hr.mono (by decide)) (by rfl) g_all_are_on_mirrors kp_all_are_on_mirrors b_all_are_on_mirrors .nil pass0 (pa_cons (pv 0) (pa_cons (pv 1) (pa_cons (pv 2) pa_nil))))) (pss_one (ps_ret pe_int)) pss_nil)
          (pss_one (ps_ret pe_int))))))
      , ?_⟩
    have fin : ∀ (r : Nat) H', Ex H H' → r = k1 (Pt n c) → Q (.int (r : Int)) H' := fun r H' e er => er ▸ q H' e
    refine q_asg (ev_most (p := Pt n c) (ev_var rfl) (eo_some ev_c) eo_none hm) fun H1 e1 => ?_
    refine q_when (b := decide (KM.most (Pt n c) = 0)) (et_is (et_test (ev_op (ev_var rfl) ev_c (rv_eq rfl))) (int_dec (b := 0))) (fun hb H2 e2 => s_ret (ev_c (v := .int ((0 : Nat) : Int))) fun H3 e3 => fin 0 H3 ((e1.trans e2).trans e3) ?_) fun hb H2 e2 => ?_
    · unfold k1 KM.kind1
      rw [if_pos (of_decide_eq_true hb)]
    refine q_when (b := decide (KM.most (Pt n c) = 1)) (et_is (et_test (ev_op (ev_var rfl) ev_c (rv_eq rfl))) (int_dec (b := 1))) (fun hb2 H3 e3 => s_ret (ev_c (v := .int ((3 : Nat) : Int))) fun H4 e4 => fin 3 H4 (((e1.trans e2).trans e3).trans e4) ?_) fun hb2 H3 e3 => ?_
    · unfold k1 KM.kind1
      rw [if_neg (of_decide_eq_false hb), if_pos (of_decide_eq_true hb2)]
    refine q_when (b := allB (Pt n c)) (et_B (ev_call (ea_cons (ev_var rfl) (ea_cons (ev_var rfl) (ea_cons (ev_var rfl) ea_nil))) (spAll_V (fo.mono ((e1.trans e2).trans e3))))) (fun hb3 H4 e4 => s_ret (ev_c (v := .int ((1 : Nat) : Int))) fun H5 e5 => fin 1 H5 ((((e1.trans e2).trans e3).trans e4).trans e5) ?_) fun hb3 H4 e4 => s_ret (ev_c (v := .int ((2 : Nat) : Int))) fun H5 e5 => fin 2 H5 ((((e1.trans e2).trans e3).trans e4).trans e5) ?_
    · unfold k1 KM.kind1
      rw [if_neg (of_decide_eq_false hb), if_neg (of_decide_eq_false hb2), if_pos hb3]
    · unfold k1 KM.kind1
      rw [if_neg (of_decide_eq_false hb), if_neg (of_decide_eq_false hb2), if_neg (by rw [hb3]; decide)]
theorem ok_k2 (C_all_are_on_mirrors : Cal P w K mg base 5 "all_are_on_mirrors" ["n", "p", "found"] (spAll K)) {f : Addr} {fd : FuncData} (F : Fun K "kind_of_turn_2" "kind_of_turn_2" s_kind_of_turn_2 f fd) (m_max : mg "max" = none) : FnOk P w K mg base CX0 6 f fd ["n", "p", "found", "marks"] (spKind K k2) := by
  obtain ⟨f_all_are_on_mirrors, fd_all_are_on_mirrors, G_all_are_on_mirrors, kp_all_are_on_mirrors, b_all_are_on_mirrors, g_all_are_on_mirrors⟩ := C_all_are_on_mirrors
  refine F.ok sc_kind_of_turn_2 (fun vs H Q E h => ?_) (fun cdv A outer s H vs Q E hr h => ?_)
  · obtain ⟨ad, lf, lm, n, c, fs, rfl, _⟩ := h
    rfl
  · obtain ⟨ad, lf, lm, n, c, fs, rfl, fo, hm, q⟩ := h
    refine ⟨_,
      (pss_cons (ps_if (pt_cmpR op_eq (pe_callB (cr_max rfl) (by rfl) m_max (by decide +kernel) (pa_cons (pe_slice sl_list (pv 3) (po_some pe_int) po_none) pa_nil)) pe_int (nomark _)) (pss_one (ps_ret pe_int)) pss_nil)
          (pss_cons (ps_set (i := 4) sc_kind_of_turn_2.nd rfl (Or.inl rfl) (pe_bm PySem.F.plainAttrs_list PySem.F.slot_list_count PySem.F.type_list_count mt_lcount (pe_slice sl_list (pv 3) (po_some pe_int) po_none) (pa_cons pe_int pa_nil)))
          (pss_cons (ps_if (pt_cmpR op_eq (pv 4) pe_int (nomark _)) (pss_one (ps_ret pe_int)) pss_nil)
          (pss_cons (ps_if (pt_cmpR op_eq (pv 4) pe_int (nomark _)) (pss_one (ps_ret pe_int)) pss_nil)
          (pss_cons (ps_if (pt_val (pe_call G_all_are_on_mirrors (hr.mono (by decide)) (by rfl) g_all_are_on_mirrors kp_all_are_on_mirrors b_all_are_on_mirrors .nil pass0 (pa_cons (pv 0) (pa_cons (pv 1) (pa_cons (pv 2) pa_nil))))) (pss_one (ps_ret pe_int)) pss_nil)
          (pss_one (ps_ret pe_int)))))))
      , ?_⟩
    have fin : ∀ (r : Nat) H', Ex H H' → r = k2 (Pt n c) → Q (.int (r : Int)) H' := fun r H' e er => er ▸ q H' e
    refine q_when (b := decide (KM.most (Pt n c) = 0)) (et_is (et_test (ev_op (ev_most (p := Pt n c) (ev_var rfl) (eo_some ev_c) eo_none hm) ev_c (rv_eq rfl))) (int_dec (b := 0))) (fun hb H2 e2 => s_ret (ev_c (v := .int ((4 : Nat) : Int))) fun H3 e3 => fin 4 H3 (e2.trans e3) ?_) fun hb H2 e2 => ?_
    · unfold k2 KM.kind2
      rw [if_pos (of_decide_eq_true hb)]
    refine q_asg (ev_count (ns := KM.m4 (Pt n c)) (by rw [← cut4]; exact el_sl (ev_var rfl) (eo_some ev_c) eo_none (sq_of (e2 _ _ hm))) ev_c) fun H3 e3 => ?_
    have e23 := e2.trans e3
    refine q_when (b := decide ((KM.m4 (Pt n c)).count 2 = 0)) (et_is (et_test (ev_op (ev_var rfl) ev_c (rv_eq rfl))) (int_dec (b := 0))) (fun hb2 H4 e4 => s_ret (ev_c (v := .int ((8 : Nat) : Int))) fun H5 e5 => fin 8 H5 ((e23.trans e4).trans e5) ?_) fun hb2 H4 e4 => ?_
    · unfold k2 KM.kind2
      rw [if_neg (of_decide_eq_false hb), if_pos (of_decide_eq_true hb2)]
    refine q_when (b := decide ((KM.m4 (Pt n c)).count 2 = 1)) (et_is (et_test (ev_op (ev_var rfl) ev_c (rv_eq rfl))) (int_dec (b := 1))) (fun hb3 H5 e5 => s_ret (ev_c (v := .int ((7 : Nat) : Int))) fun H6 e6 => fin 7 H6 (((e23.trans e4).trans e5).trans e6) ?_) fun hb3 H5 e5 => ?_
    · unfold k2 KM.kind2
      rw [if_neg (of_decide_eq_false hb), if_neg (of_decide_eq_false hb2), if_pos (of_decide_eq_true hb3)]
    refine q_when (b := allB (Pt n c)) (et_B (ev_call (ea_cons (ev_var rfl) (ea_cons (ev_var rfl) (ea_cons (ev_var rfl) ea_nil))) (spAll_V (fo.mono ((e23.trans e4).trans e5))))) (fun hb4 H6 e6 => s_ret (ev_c (v := .int ((5 : Nat) : Int))) fun H7 e7 => fin 5 H7 ((((e23.trans e4).trans e5).trans e6).trans e7) ?_) fun hb4 H6 e6 => s_ret (ev_c (v := .int ((6 : Nat) : Int))) fun H7 e7 => fin 6 H7 ((((e23.trans e4).trans e5).trans e6).trans e7) ?_
    · unfold k2 KM.kind2
      rw [if_neg (of_decide_eq_false hb), if_neg (of_decide_eq_false hb2), if_neg (of_decide_eq_false hb3), if_pos hb4]
    · unfold k2 KM.kind2
      rw [if_neg (of_decide_eq_false hb), if_neg (of_decide_eq_false hb2), if_neg (of_decide_eq_false hb3), if_neg (by rw [hb4]; decide)]
theorem ok_k4 (C_some_turn_is_on_mirror : Cal P w K mg base 5 "some_turn_is_on_mirror" ["n", "p", "found"] (spSome K)) {f : Addr} {fd : FuncData} (F : Fun K "kind_of_turn_4" "kind_of_turn_4" s_kind_of_turn_4 f fd) (m_max : mg "max" = none) : FnOk P w K mg base CX0 6 f fd ["n", "p", "found", "marks"] (spKind K k4) := by
  obtain ⟨f_some_turn_is_on_mirror, fd_some_turn_is_on_mirror, G_some_turn_is_on_mirror, kp_some_turn_is_on_mirror, b_some_turn_is_on_mirror, g_some_turn_is_on_mirror⟩ := C_some_turn_is_on_mirror
  refine F.ok sc_kind_of_turn_4 (fun vs H Q E h => ?_) (fun cdv A outer s H vs Q E hr h => ?_)
  · obtain ⟨ad, lf, lm, n, c, fs, rfl, _⟩ := h
    rfl
  · obtain ⟨ad, lf, lm, n, c, fs, rfl, fo, hm, q⟩ := h
    refine ⟨_,
      (pss_cons (ps_if (pt_cmpR op_eq (pe_callB (cr_max rfl) (by rfl) m_max (by decide +kernel) (pa_cons (pe_slice sl_list (pv 3) (po_some pe_int) po_none) pa_nil)) pe_int (nomark _)) (pss_one (ps_ret pe_int)) pss_nil)
          (pss_cons (ps_if (pt_val (pe_call G_some_turn_is_on_mirror (hr.mono (by decide)) (by rfl) g_some_turn_is_on_mirror kp_some_turn_is_on_mirror b_some_turn_is_on_mirror .nil pass0 (pa_cons (pv 0) (pa_cons (pv 1) (pa_cons (pv 2) pa_nil))))) (pss_one (ps_ret pe_int)) pss_nil)
          (pss_one (ps_ret pe_int))))
      , ?_⟩
    have fin : ∀ (r : Nat) H', Ex H H' → r = k4 (Pt n c) → Q (.int (r : Int)) H' := fun r H' e er => er ▸ q H' e
    refine q_when (b := decide (KM.most (Pt n c) = 0)) (et_is (et_test (ev_op (ev_most (p := Pt n c) (ev_var rfl) (eo_some ev_c) eo_none hm) ev_c (rv_eq rfl))) (int_dec (b := 0))) (fun hb H2 e2 => s_ret (ev_c (v := .int ((9 : Nat) : Int))) fun H3 e3 => fin 9 H3 (e2.trans e3) ?_) fun hb H2 e2 => ?_
    · unfold k4 KM.kind4
      rw [if_pos (of_decide_eq_true hb)]
    refine q_when (b := someB (Pt n c)) (et_B (ev_call (ea_cons (ev_var rfl) (ea_cons (ev_var rfl) (ea_cons (ev_var rfl) ea_nil))) (spSome_V (fo.mono e2)))) (fun hb4 H6 e6 => s_ret (ev_c (v := .int ((10 : Nat) : Int))) fun H7 e7 => fin 10 H7 ((e2.trans e6).trans e7) ?_) fun hb4 H6 e6 => s_ret (ev_c (v := .int ((11 : Nat) : Int))) fun H7 e7 => fin 11 H7 ((e2.trans e6).trans e7) ?_
    · unfold k4 KM.kind4
      rw [if_neg (of_decide_eq_false hb), if_pos hb4]
    · unfold k4 KM.kind4
      rw [if_neg (of_decide_eq_false hb), if_neg (by rw [hb4]; decide)]
/-! ### kind -/
theorem mark_pos {p : Sa48.Pat} {a : Nat} : decide (((KM.mark p a : Nat) : Int) > 0) = Sa48Neutral.has p a := by
  unfold KM.mark
  cases h : Sa48Neutral.has p a with
  | false => rw [if_pos rfl]; rfl
  | true =>
    rw [if_neg (by decide)]
    split <;> rfl
theorem mks_at (p : Sa48.Pat) {a : Nat} (ha : a < 8) : (mks p 8)[a]? = some (.int (KM.mark p a : Nat)) := by
  unfold mks
  rw [List.map_map, List.getElem?_map, List.getElem?_range ha]
  rfl
def spK (K : PySem.W.Frag) : Sp := fun vs H Q _ => ∃ (ad : Addr) (m : Int) (c : List Int), vs = [.int m, .ref ad] ∧ SqL K H ad (c.map V.int) ∧ Asked m c ∧
  ∀ p H', H' p = some (.lst ((PySa48.kind m c).map V.int)) → Q (.ref p) H'
theorem fin_kind {D : Ends} {σ : L2.St} {H : Hp} {l : Addr} {k : Int} {ys : List V} (h4 : σ[4]? = some (some (.int k))) (h3 : σ[3]? = some (some (.ref l))) (h : H l = some (.lst ys)) (hy : ys.length ≤ 1000) (q : ∀ p H', H' p = some (.lst (.int k :: ys)) → D.rt (.ref p) H') :
    tRet (tOp rCat (tLst (tCons (tVar 4) tNil)) (tVar 3)) D σ H :=
  s_retL (el_cat (el_lst (ea_cons (ev_var h4) ea_nil) (by show 1 ≤ 100000; decide)) (ev_var h3) h (by show 1 + ys.length ≤ 100000; omega)) fun p H1 _ _ h1 => q p H1 h1
theorem ok_kind (C_is_side : Cal P w K mg base 1 "is_side" ["n"] spSide) (C_symmetries : Cal P w K mg base 4 "symmetries" ["n", "p"] (spSyms K)) (C_marks_of_ways : Cal P w K mg base 5 "marks_of_ways" ["n", "p", "found"] (spMarks K))
    (C_kind_of_turn_1 : Cal P w K mg base 6 "kind_of_turn_1" ["n", "p", "found", "marks"] (spKind K k1)) (C_kind_of_turn_2 : Cal P w K mg base 6 "kind_of_turn_2" ["n", "p", "found", "marks"] (spKind K k2)) (C_kind_of_turn_4 : Cal P w K mg base 6 "kind_of_turn_4" ["n", "p", "found", "marks"] (spKind K k4))
    {f : Addr} {fd : FuncData} (F : Fun K "kind" "kind" s_kind f fd) : FnOk P w K mg base CX0 7 f fd ["n", "p"] (spK K) := by
  obtain ⟨f_is_side, fd_is_side, G_is_side, kp_is_side, b_is_side, g_is_side⟩ := C_is_side
  obtain ⟨f_symmetries, fd_symmetries, G_symmetries, kp_symmetries, b_symmetries, g_symmetries⟩ := C_symmetries
  obtain ⟨f_marks_of_ways, fd_marks_of_ways, G_marks_of_ways, kp_marks_of_ways, b_marks_of_ways, g_marks_of_ways⟩ := C_marks_of_ways
  obtain ⟨f_kind_of_turn_1, fd_kind_of_turn_1, G_kind_of_turn_1, kp_kind_of_turn_1, b_kind_of_turn_1, g_kind_of_turn_1⟩ := C_kind_of_turn_1
  obtain ⟨f_kind_of_turn_2, fd_kind_of_turn_2, G_kind_of_turn_2, kp_kind_of_turn_2, b_kind_of_turn_2, g_kind_of_turn_2⟩ := C_kind_of_turn_2
  obtain ⟨f_kind_of_turn_4, fd_kind_of_turn_4, G_kind_of_turn_4, kp_kind_of_turn_4, b_kind_of_turn_4, g_kind_of_turn_4⟩ := C_kind_of_turn_4
  refine F.ok sc_kind (fun vs H Q E h => ?_) (fun cdv A outer s H vs Q E hr h => ?_)
  · obtain ⟨ad, m, c, rfl, _⟩ := h
    rfl
  · obtain ⟨ad, m, c, rfl, hS, hm, q⟩ := h
    refine ⟨_,
      (pss_cons (ps_if (pt_not (pt_val (pe_call G_is_side (hr.mono (by decide)) (by rfl) g_is_side kp_is_side b_is_side .nil pass0 (pa_cons (pv 0) pa_nil)))) (pss_one (ps_ret (pe_lst (pa_cons (pe_un un_neg pe_int) pa_nil)))) pss_nil)
          (pss_cons (ps_set (i := 2) sc_kind.nd rfl (Or.inl rfl) (pe_call G_symmetries (hr.mono (by decide)) (by rfl) g_symmetries kp_symmetries b_symmetries .nil pass0 (pa_cons (pv 0) (pa_cons (pv 1) pa_nil))))
          (pss_cons (ps_set (i := 3) sc_kind.nd rfl (Or.inl rfl) (pe_call G_marks_of_ways (hr.mono (by decide)) (by rfl) g_marks_of_ways kp_marks_of_ways b_marks_of_ways .nil pass0 (pa_cons (pv 0) (pa_cons (pv 1) (pa_cons (pv 2) pa_nil)))))
          (pss_cons (ps_if (pt_cmpR op_gt (pe_ix ix_list (pv 3) pe_int (fun _ _ => rfl)) pe_int (nomark _)) (pss_one (ps_set (i := 4) sc_kind.nd rfl (Or.inl rfl) (pe_call G_kind_of_turn_4 (hr.mono (by decide)) (by rfl) g_kind_of_turn_4 kp_kind_of_turn_4 b_kind_of_turn_4 .nil pass0 (pa_cons (pv 0) (pa_cons (pv 1) (pa_cons (pv 2) (pa_cons (pv 3) pa_nil))))))) (pss_one (ps_if (pt_cmpR op_gt (pe_ix ix_list (pv 3) pe_int (fun _ _ => rfl)) pe_int (nomark _)) (pss_one (ps_set (i := 4) sc_kind.nd rfl (Or.inl rfl) (pe_call G_kind_of_turn_2 (hr.mono (by decide)) (by rfl) g_kind_of_turn_2 kp_kind_of_turn_2 b_kind_of_turn_2 .nil pass0 (pa_cons (pv 0) (pa_cons (pv 1) (pa_cons (pv 2) (pa_cons (pv 3) pa_nil))))))) (pss_one (ps_set (i := 4) sc_kind.nd rfl (Or.inl rfl) (pe_call G_kind_of_turn_1 (hr.mono (by decide)) (by rfl) g_kind_of_turn_1 kp_kind_of_turn_1 b_kind_of_turn_1 .nil pass0 (pa_cons (pv 0) (pa_cons (pv 1) (pa_cons (pv 2) (pa_cons (pv 3) pa_nil))))))))))
          (pss_one (ps_ret (pe_op op_cat (pe_lst (pa_cons (pv 4) pa_nil)) (pv 3))))))))
      , ?_⟩
    refine q_when (b := !(decide (1 ≤ m) && decide (m ≤ 64))) (et_not (et_B (ev_call (ea_cons (ev_var rfl) ea_nil) (spSide_V m)))) ?_ ?_
    · intro hb H1 e1
      refine s_retL (el_lst (ea_cons (ev_un ev_c ru_neg) ea_nil) (by show 1 ≤ 100000; decide)) fun p H2 _ _ h2 => q p H2 ?_
      rw [KM.kind_bad (not_side hb)]
      exact h2
    · intro hb H1 e1
      have hb' := is_side hb
      obtain ⟨n, rfl, R⟩ := hm.resolve_left (by omega)
      have n1 := R.lo
      have n6 := R.hi
      have hn0 : 0 < (Pt n c).n := by show 0 < n; omega
      refine ⟨_, rfl, _, rfl, ad, n, c, rfl, ex_l e1 hS, R, fun lf fs H2 e2 hf tf => ?_⟩
      have fo : Fo K H2 ad lf n c fs := ⟨ex_l (e1.trans e2) hS, R, hf, tf⟩
      refine q_asgL (el_call (ea_cons (ev_var rfl) (ea_cons (ev_var rfl) (ea_cons (ev_var rfl) ea_nil))) (xs := mks (Pt n c) 8) fun H3 e3 Q q E => ⟨ad, lf, n, c, fs, rfl, fo.mono e3, fun p H4 h4 e4 h5 => q p H4 h4 e4 h5⟩) fun lm H3 _ e3 h3 => ?_
      have ke := KM.kind_eq hn0 (allB_iff (p := Pt n c)) (someB_iff (p := Pt n c))
      have m8 : (mks (Pt n c) 8).length ≤ 1000 := by rw [mks_len]; decide
      have fin : ∀ k : Nat, k = Sa48Neutral.kind (Pt n c) → ∀ p H', H' p = some (.lst (.int (k : Int) :: mks (Pt n c) 8)) → Q (.ref p) H' := fun k ek p H' hp => by
        refine q p H' ?_
        rw [hp, KM.kind_spec ⟨n1, n6⟩, ek]
        rfl
      refine q_if (b := Sa48Neutral.has (Pt n c) 1) (et_is (et_test (ev_op (ev_op (ev_var rfl) ev_c (rv_ixL (sq_of h3) (atI_nat (j := 1) (mks_at (Pt n c) (by decide))))) ev_c rv_I0)) mark_pos) ?_ ?_
      · intro hb1 H4 e4
        refine s_asg (ev_call (ea_cons (ev_var rfl) (ea_cons (ev_var rfl) (ea_cons (ev_var rfl) (ea_cons (ev_var rfl) ea_nil)))) (spKind_V (r := k4) (fo.mono (e3.trans e4)) (e4 _ _ h3))) fun H5 e5 => ?_
        refine fin_kind rfl rfl ((e4.trans e5) _ _ h3) m8 (fin (k4 (Pt n c)) ?_)
        rw [ke, if_pos hb1]
        rfl
      · intro hb1 H4 e4
        refine s_if (b := Sa48Neutral.has (Pt n c) 2) (et_is (et_test (ev_op (ev_op (ev_var rfl) ev_c (rv_ixL (sq_of (e4 _ _ h3)) (atI_nat (j := 2) (mks_at (Pt n c) (by decide))))) ev_c rv_I0)) mark_pos) ?_ ?_
        · intro hb2 H5 e5
          refine s_asg (ev_call (ea_cons (ev_var rfl) (ea_cons (ev_var rfl) (ea_cons (ev_var rfl) (ea_cons (ev_var rfl) ea_nil)))) (spKind_V (r := k2) (fo.mono ((e3.trans e4).trans e5)) ((e4.trans e5) _ _ h3))) fun H6 e6 => ?_
          refine fin_kind rfl rfl (((e4.trans e5).trans e6) _ _ h3) m8 (fin (k2 (Pt n c)) ?_)
          rw [ke, if_neg (by rw [hb1]; decide), if_pos hb2]
          rfl
        · intro hb2 H5 e5
          refine s_asg (ev_call (ea_cons (ev_var rfl) (ea_cons (ev_var rfl) (ea_cons (ev_var rfl) (ea_cons (ev_var rfl) ea_nil)))) (spKind_V (r := k1) (fo.mono ((e3.trans e4).trans e5)) ((e4.trans e5) _ _ h3))) fun H6 e6 => ?_
          refine fin_kind rfl rfl (((e4.trans e5).trans e6) _ _ h3) m8 (fin (k1 (Pt n c)) ?_)
          rw [ke, if_neg (by rw [hb1]; decide), if_neg (by rw [hb2]; decide)]
          rfl
end

/-! ### the end -/
theorem all_mk {P : Program} {w : World} {K : PySem.W.Frag} {h : Heap} {mg : Str → Option Value} {fa f_turned f_taken f_is_symmetry f_is_mirror_through f_some_turn_is_on_mirror f_kind_of_turn_4 f_all_are_on_mirrors f_kind_of_turn_2 f_kind_of_turn_1 f_has_mirror f_marks_of_ways f_movements_by f_symmetries f_is_side f_kind : Addr} (X : K.In h) (G : h.Ns mainGlobals mg) (hfa : mg "kind" = some (.ref fa))
    {od_turned an_turned od_taken an_taken od_is_symmetry an_is_symmetry od_is_mirror_through an_is_mirror_through od_some_turn_is_on_mirror an_some_turn_is_on_mirror od_kind_of_turn_4 an_kind_of_turn_4 od_all_are_on_mirrors an_all_are_on_mirrors od_kind_of_turn_2 an_kind_of_turn_2 od_kind_of_turn_1 an_kind_of_turn_1 od_has_mirror an_has_mirror od_marks_of_ways an_marks_of_ways od_movements_by an_movements_by od_symmetries an_symmetries od_is_side an_is_side od_kind an_kind : Option Addr} {sl_turned sl_taken sl_is_symmetry sl_is_mirror_through sl_some_turn_is_on_mirror sl_kind_of_turn_4 sl_all_are_on_mirrors sl_kind_of_turn_2 sl_kind_of_turn_1 sl_has_mirror sl_marks_of_ways sl_movements_by sl_symmetries sl_is_side sl_kind : Array (Option Value)} {oc_turned kV_turned dc_turned pm_turned cd_turned ct_turned oc_taken kV_taken dc_taken pm_taken cd_taken ct_taken oc_is_symmetry kV_is_symmetry dc_is_symmetry pm_is_symmetry cd_is_symmetry ct_is_symmetry oc_is_mirror_through kV_is_mirror_through dc_is_mirror_through pm_is_mirror_through cd_is_mirror_through ct_is_mirror_through oc_some_turn_is_on_mirror kV_some_turn_is_on_mirror dc_some_turn_is_on_mirror pm_some_turn_is_on_mirror cd_some_turn_is_on_mirror ct_some_turn_is_on_mirror oc_kind_of_turn_4 kV_kind_of_turn_4 dc_kind_of_turn_4 pm_kind_of_turn_4 cd_kind_of_turn_4 ct_kind_of_turn_4 oc_all_are_on_mirrors kV_all_are_on_mirrors dc_all_are_on_mirrors pm_all_are_on_mirrors cd_all_are_on_mirrors ct_all_are_on_mirrors oc_kind_of_turn_2 kV_kind_of_turn_2 dc_kind_of_turn_2 pm_kind_of_turn_2 cd_kind_of_turn_2 ct_kind_of_turn_2 oc_kind_of_turn_1 kV_kind_of_turn_1 dc_kind_of_turn_1 pm_kind_of_turn_1 cd_kind_of_turn_1 ct_kind_of_turn_1 oc_has_mirror kV_has_mirror dc_has_mirror pm_has_mirror cd_has_mirror ct_has_mirror oc_marks_of_ways kV_marks_of_ways dc_marks_of_ways pm_marks_of_ways cd_marks_of_ways ct_marks_of_ways oc_movements_by kV_movements_by dc_movements_by pm_movements_by cd_movements_by ct_movements_by oc_symmetries kV_symmetries dc_symmetries pm_symmetries cd_symmetries ct_symmetries oc_is_side kV_is_side dc_is_side pm_is_side cd_is_side ct_is_side oc_kind kV_kind dc_kind pm_kind cd_kind ct_kind : Value}
    (a_turned : PySem.W.nsIn K mainGlobals "turned" = some (some (.ref f_turned))) (l_turned : K.lookup f_turned = some ⟨oc_turned, od_turned, .func (PySem.W.fnOf "turned" "turned" (defArgs s_turned) (defBody s_turned) (defScope s_turned) .none kV_turned dc_turned pm_turned an_turned cd_turned ct_turned), sl_turned⟩) (c_turned : PySem.W.codeIn K cd_turned "turned" = true) (k_turned : PySem.W.keepIn K (.ref f_turned) = true)
    (a_taken : PySem.W.nsIn K mainGlobals "taken" = some (some (.ref f_taken))) (l_taken : K.lookup f_taken = some ⟨oc_taken, od_taken, .func (PySem.W.fnOf "taken" "taken" (defArgs s_taken) (defBody s_taken) (defScope s_taken) .none kV_taken dc_taken pm_taken an_taken cd_taken ct_taken), sl_taken⟩) (c_taken : PySem.W.codeIn K cd_taken "taken" = true) (k_taken : PySem.W.keepIn K (.ref f_taken) = true)
    (a_is_symmetry : PySem.W.nsIn K mainGlobals "is_symmetry" = some (some (.ref f_is_symmetry))) (l_is_symmetry : K.lookup f_is_symmetry = some ⟨oc_is_symmetry, od_is_symmetry, .func (PySem.W.fnOf "is_symmetry" "is_symmetry" (defArgs s_is_symmetry) (defBody s_is_symmetry) (defScope s_is_symmetry) .none kV_is_symmetry dc_is_symmetry pm_is_symmetry an_is_symmetry cd_is_symmetry ct_is_symmetry), sl_is_symmetry⟩) (c_is_symmetry : PySem.W.codeIn K cd_is_symmetry "is_symmetry" = true) (k_is_symmetry : PySem.W.keepIn K (.ref f_is_symmetry) = true)
    (a_is_mirror_through : PySem.W.nsIn K mainGlobals "is_mirror_through" = some (some (.ref f_is_mirror_through))) (l_is_mirror_through : K.lookup f_is_mirror_through = some ⟨oc_is_mirror_through, od_is_mirror_through, .func (PySem.W.fnOf "is_mirror_through" "is_mirror_through" (defArgs s_is_mirror_through) (defBody s_is_mirror_through) (defScope s_is_mirror_through) .none kV_is_mirror_through dc_is_mirror_through pm_is_mirror_through an_is_mirror_through cd_is_mirror_through ct_is_mirror_through), sl_is_mirror_through⟩) (c_is_mirror_through : PySem.W.codeIn K cd_is_mirror_through "is_mirror_through" = true) (k_is_mirror_through : PySem.W.keepIn K (.ref f_is_mirror_through) = true)
    (a_some_turn_is_on_mirror : PySem.W.nsIn K mainGlobals "some_turn_is_on_mirror" = some (some (.ref f_some_turn_is_on_mirror))) (l_some_turn_is_on_mirror : K.lookup f_some_turn_is_on_mirror = some ⟨oc_some_turn_is_on_mirror, od_some_turn_is_on_mirror, .func (PySem.W.fnOf "some_turn_is_on_mirror" "some_turn_is_on_mirror" (defArgs s_some_turn_is_on_mirror) (defBody s_some_turn_is_on_mirror) (defScope s_some_turn_is_on_mirror) .none kV_some_turn_is_on_mirror dc_some_turn_is_on_mirror pm_some_turn_is_on_mirror an_some_turn_is_on_mirror cd_some_turn_is_on_mirror ct_some_turn_is_on_mirror), sl_some_turn_is_on_mirror⟩) (c_some_turn_is_on_mirror : PySem.W.codeIn K cd_some_turn_is_on_mirror "some_turn_is_on_mirror" = true) (k_some_turn_is_on_mirror : PySem.W.keepIn K (.ref f_some_turn_is_on_mirror) = true)
    (a_kind_of_turn_4 : PySem.W.nsIn K mainGlobals "kind_of_turn_4" = some (some (.ref f_kind_of_turn_4))) (l_kind_of_turn_4 : K.lookup f_kind_of_turn_4 = some ⟨oc_kind_of_turn_4, od_kind_of_turn_4, .func (PySem.W.fnOf "kind_of_turn_4" "kind_of_turn_4" (defArgs s_kind_of_turn_4) (defBody s_kind_of_turn_4) (defScope s_kind_of_turn_4) .none kV_kind_of_turn_4 dc_kind_of_turn_4 pm_kind_of_turn_4 an_kind_of_turn_4 cd_kind_of_turn_4 ct_kind_of_turn_4), sl_kind_of_turn_4⟩) (c_kind_of_turn_4 : PySem.W.codeIn K cd_kind_of_turn_4 "kind_of_turn_4" = true) (k_kind_of_turn_4 : PySem.W.keepIn K (.ref f_kind_of_turn_4) = true)
    (a_all_are_on_mirrors : PySem.W.nsIn K mainGlobals "all_are_on_mirrors" = some (some (.ref f_all_are_on_mirrors))) (l_all_are_on_mirrors : K.lookup f_all_are_on_mirrors = some ⟨oc_all_are_on_mirrors, od_all_are_on_mirrors, .func (PySem.W.fnOf "all_are_on_mirrors" "all_are_on_mirrors" (defArgs s_all_are_on_mirrors) (defBody s_all_are_on_mirrors) (defScope s_all_are_on_mirrors) .none kV_all_are_on_mirrors dc_all_are_on_mirrors pm_all_are_on_mirrors an_all_are_on_mirrors cd_all_are_on_mirrors ct_all_are_on_mirrors), sl_all_are_on_mirrors⟩) (c_all_are_on_mirrors : PySem.W.codeIn K cd_all_are_on_mirrors "all_are_on_mirrors" = true) (k_all_are_on_mirrors : PySem.W.keepIn K (.ref f_all_are_on_mirrors) = true)
    (a_kind_of_turn_2 : PySem.W.nsIn K mainGlobals "kind_of_turn_2" = some (some (.ref f_kind_of_turn_2))) (l_kind_of_turn_2 : K.lookup f_kind_of_turn_2 = some ⟨oc_kind_of_turn_2, od_kind_of_turn_2, .func (PySem.W.fnOf "kind_of_turn_2" "kind_of_turn_2" (defArgs s_kind_of_turn_2) (defBody s_kind_of_turn_2) (defScope s_kind_of_turn_2) .none kV_kind_of_turn_2 dc_kind_of_turn_2 pm_kind_of_turn_2 an_kind_of_turn_2 cd_kind_of_turn_2 ct_kind_of_turn_2), sl_kind_of_turn_2⟩) (c_kind_of_turn_2 : PySem.W.codeIn K cd_kind_of_turn_2 "kind_of_turn_2" = true) (k_kind_of_turn_2 : PySem.W.keepIn K (.ref f_kind_of_turn_2) = true)
    (a_kind_of_turn_1 : PySem.W.nsIn K mainGlobals "kind_of_turn_1" = some (some (.ref f_kind_of_turn_1))) (l_kind_of_turn_1 : K.lookup f_kind_of_turn_1 = some ⟨oc_kind_of_turn_1, od_kind_of_turn_1, .func (PySem.W.fnOf "kind_of_turn_1" "kind_of_turn_1" (defArgs s_kind_of_turn_1) (defBody s_kind_of_turn_1) (defScope s_kind_of_turn_1) .none kV_kind_of_turn_1 dc_kind_of_turn_1 pm_kind_of_turn_1 an_kind_of_turn_1 cd_kind_of_turn_1 ct_kind_of_turn_1), sl_kind_of_turn_1⟩) (c_kind_of_turn_1 : PySem.W.codeIn K cd_kind_of_turn_1 "kind_of_turn_1" = true) (k_kind_of_turn_1 : PySem.W.keepIn K (.ref f_kind_of_turn_1) = true)
    (a_has_mirror : PySem.W.nsIn K mainGlobals "has_mirror" = some (some (.ref f_has_mirror))) (l_has_mirror : K.lookup f_has_mirror = some ⟨oc_has_mirror, od_has_mirror, .func (PySem.W.fnOf "has_mirror" "has_mirror" (defArgs s_has_mirror) (defBody s_has_mirror) (defScope s_has_mirror) .none kV_has_mirror dc_has_mirror pm_has_mirror an_has_mirror cd_has_mirror ct_has_mirror), sl_has_mirror⟩) (c_has_mirror : PySem.W.codeIn K cd_has_mirror "has_mirror" = true) (k_has_mirror : PySem.W.keepIn K (.ref f_has_mirror) = true)
    (a_marks_of_ways : PySem.W.nsIn K mainGlobals "marks_of_ways" = some (some (.ref f_marks_of_ways))) (l_marks_of_ways : K.lookup f_marks_of_ways = some ⟨oc_marks_of_ways, od_marks_of_ways, .func (PySem.W.fnOf "marks_of_ways" "marks_of_ways" (defArgs s_marks_of_ways) (defBody s_marks_of_ways) (defScope s_marks_of_ways) .none kV_marks_of_ways dc_marks_of_ways pm_marks_of_ways an_marks_of_ways cd_marks_of_ways ct_marks_of_ways), sl_marks_of_ways⟩) (c_marks_of_ways : PySem.W.codeIn K cd_marks_of_ways "marks_of_ways" = true) (k_marks_of_ways : PySem.W.keepIn K (.ref f_marks_of_ways) = true)
    (a_movements_by : PySem.W.nsIn K mainGlobals "movements_by" = some (some (.ref f_movements_by))) (l_movements_by : K.lookup f_movements_by = some ⟨oc_movements_by, od_movements_by, .func (PySem.W.fnOf "movements_by" "movements_by" (defArgs s_movements_by) (defBody s_movements_by) (defScope s_movements_by) .none kV_movements_by dc_movements_by pm_movements_by an_movements_by cd_movements_by ct_movements_by), sl_movements_by⟩) (c_movements_by : PySem.W.codeIn K cd_movements_by "movements_by" = true) (k_movements_by : PySem.W.keepIn K (.ref f_movements_by) = true)
    (a_symmetries : PySem.W.nsIn K mainGlobals "symmetries" = some (some (.ref f_symmetries))) (l_symmetries : K.lookup f_symmetries = some ⟨oc_symmetries, od_symmetries, .func (PySem.W.fnOf "symmetries" "symmetries" (defArgs s_symmetries) (defBody s_symmetries) (defScope s_symmetries) .none kV_symmetries dc_symmetries pm_symmetries an_symmetries cd_symmetries ct_symmetries), sl_symmetries⟩) (c_symmetries : PySem.W.codeIn K cd_symmetries "symmetries" = true) (k_symmetries : PySem.W.keepIn K (.ref f_symmetries) = true)
    (a_is_side : PySem.W.nsIn K mainGlobals "is_side" = some (some (.ref f_is_side))) (l_is_side : K.lookup f_is_side = some ⟨oc_is_side, od_is_side, .func (PySem.W.fnOf "is_side" "is_side" (defArgs s_is_side) (defBody s_is_side) (defScope s_is_side) .none kV_is_side dc_is_side pm_is_side an_is_side cd_is_side ct_is_side), sl_is_side⟩) (c_is_side : PySem.W.codeIn K cd_is_side "is_side" = true) (k_is_side : PySem.W.keepIn K (.ref f_is_side) = true)
    (a_kind : PySem.W.nsIn K mainGlobals "kind" = some (some (.ref f_kind))) (l_kind : K.lookup f_kind = some ⟨oc_kind, od_kind, .func (PySem.W.fnOf "kind" "kind" (defArgs s_kind) (defBody s_kind) (defScope s_kind) .none kV_kind dc_kind pm_kind an_kind cd_kind ct_kind), sl_kind⟩) (c_kind : PySem.W.codeIn K cd_kind "kind" = true) (k_kind : PySem.W.keepIn K (.ref f_kind) = true)
    (z_range : PySem.W.nsIn K mainGlobals "range" = some none)
    (z_max : PySem.W.nsIn K mainGlobals "max" = some none)
    : ∃ fd : FuncData, (∀ (s : Shared) (us : List Value), us.length = (["n", "p"] : List Str).length → BindsTo s fd ⟨us, []⟩ ((["n", "p"] : List Str).zip us)) ∧ ∀ base : Heap, K.In base → base.Ns mainGlobals mg → FnOk P w K mg base CX0 7 fa fd ["n", "p"] (spK K) := by
  have e := hfa.symm.trans (PySem.W.mg_of X G a_kind)
  cases e
  have F_turned := fun_mk (st := s_turned) l_turned c_turned k_turned
  have b_turned := F_turned.binds (ps := ["way", "x", "y"]) fun _ _ _ _ _ _ us hl => match us, hl with | [_, _, _], _ => rfl
  have g_turned := PySem.W.mg_of X G a_turned
  have F_taken := fun_mk (st := s_taken) l_taken c_taken k_taken
  have b_taken := F_taken.binds (ps := ["n", "way", "a", "b", "place"]) fun _ _ _ _ _ _ us hl => match us, hl with | [_, _, _, _, _], _ => rfl
  have g_taken := PySem.W.mg_of X G a_taken
  have F_is_symmetry := fun_mk (st := s_is_symmetry) l_is_symmetry c_is_symmetry k_is_symmetry
  have b_is_symmetry := F_is_symmetry.binds (ps := ["n", "p", "way", "a", "b"]) fun _ _ _ _ _ _ us hl => match us, hl with | [_, _, _, _, _], _ => rfl
  have g_is_symmetry := PySem.W.mg_of X G a_is_symmetry
  have F_is_mirror_through := fun_mk (st := s_is_mirror_through) l_is_mirror_through c_is_mirror_through k_is_mirror_through
  have b_is_mirror_through := F_is_mirror_through.binds (ps := ["n", "p", "way", "x", "y"]) fun _ _ _ _ _ _ us hl => match us, hl with | [_, _, _, _, _], _ => rfl
  have g_is_mirror_through := PySem.W.mg_of X G a_is_mirror_through
  have F_some_turn_is_on_mirror := fun_mk (st := s_some_turn_is_on_mirror) l_some_turn_is_on_mirror c_some_turn_is_on_mirror k_some_turn_is_on_mirror
  have b_some_turn_is_on_mirror := F_some_turn_is_on_mirror.binds (ps := ["n", "p", "found"]) fun _ _ _ _ _ _ us hl => match us, hl with | [_, _, _], _ => rfl
  have g_some_turn_is_on_mirror := PySem.W.mg_of X G a_some_turn_is_on_mirror
  have F_kind_of_turn_4 := fun_mk (st := s_kind_of_turn_4) l_kind_of_turn_4 c_kind_of_turn_4 k_kind_of_turn_4
  have b_kind_of_turn_4 := F_kind_of_turn_4.binds (ps := ["n", "p", "found", "marks"]) fun _ _ _ _ _ _ us hl => match us, hl with | [_, _, _, _], _ => rfl
  have g_kind_of_turn_4 := PySem.W.mg_of X G a_kind_of_turn_4
  have F_all_are_on_mirrors := fun_mk (st := s_all_are_on_mirrors) l_all_are_on_mirrors c_all_are_on_mirrors k_all_are_on_mirrors
  have b_all_are_on_mirrors := F_all_are_on_mirrors.binds (ps := ["n", "p", "found"]) fun _ _ _ _ _ _ us hl => match us, hl with | [_, _, _], _ => rfl
  have g_all_are_on_mirrors := PySem.W.mg_of X G a_all_are_on_mirrors
  have F_kind_of_turn_2 := fun_mk (st := s_kind_of_turn_2) l_kind_of_turn_2 c_kind_of_turn_2 k_kind_of_turn_2
  have b_kind_of_turn_2 := F_kind_of_turn_2.binds (ps := ["n", "p", "found", "marks"]) fun _ _ _ _ _ _ us hl => match us, hl with | [_, _, _, _], _ => rfl
  have g_kind_of_turn_2 := PySem.W.mg_of X G a_kind_of_turn_2
  have F_kind_of_turn_1 := fun_mk (st := s_kind_of_turn_1) l_kind_of_turn_1 c_kind_of_turn_1 k_kind_of_turn_1
  have b_kind_of_turn_1 := F_kind_of_turn_1.binds (ps := ["n", "p", "found", "marks"]) fun _ _ _ _ _ _ us hl => match us, hl with | [_, _, _, _], _ => rfl
  have g_kind_of_turn_1 := PySem.W.mg_of X G a_kind_of_turn_1
  have F_has_mirror := fun_mk (st := s_has_mirror) l_has_mirror c_has_mirror k_has_mirror
  have b_has_mirror := F_has_mirror.binds (ps := ["n", "p", "way"]) fun _ _ _ _ _ _ us hl => match us, hl with | [_, _, _], _ => rfl
  have g_has_mirror := PySem.W.mg_of X G a_has_mirror
  have F_marks_of_ways := fun_mk (st := s_marks_of_ways) l_marks_of_ways c_marks_of_ways k_marks_of_ways
  have b_marks_of_ways := F_marks_of_ways.binds (ps := ["n", "p", "found"]) fun _ _ _ _ _ _ us hl => match us, hl with | [_, _, _], _ => rfl
  have g_marks_of_ways := PySem.W.mg_of X G a_marks_of_ways
  have F_movements_by := fun_mk (st := s_movements_by) l_movements_by c_movements_by k_movements_by
  have b_movements_by := F_movements_by.binds (ps := ["n", "what"]) fun _ _ _ _ _ _ us hl => match us, hl with | [_, _], _ => rfl
  have g_movements_by := PySem.W.mg_of X G a_movements_by
  have F_symmetries := fun_mk (st := s_symmetries) l_symmetries c_symmetries k_symmetries
  have b_symmetries := F_symmetries.binds (ps := ["n", "p"]) fun _ _ _ _ _ _ us hl => match us, hl with | [_, _], _ => rfl
  have g_symmetries := PySem.W.mg_of X G a_symmetries
  have F_is_side := fun_mk (st := s_is_side) l_is_side c_is_side k_is_side
  have b_is_side := F_is_side.binds (ps := ["n"]) fun _ _ _ _ _ _ us hl => match us, hl with | [_], _ => rfl
  have g_is_side := PySem.W.mg_of X G a_is_side
  have F_kind := fun_mk (st := s_kind) l_kind c_kind k_kind
  have m_range := PySem.W.mg_none_of X G z_range
  have m_max := PySem.W.mg_none_of X G z_max
  refine ⟨PySem.W.fnOf "kind" "kind" (defArgs s_kind) (defBody s_kind) (defScope s_kind) .none kV_kind dc_kind pm_kind an_kind cd_kind ct_kind, fun s us hu => match us, hu with | [_, _], _ => .of_eq rfl, fun base _ _ => ?_⟩
  have C_turned : Cal P w K mg base 1 "turned" ["way", "x", "y"] spTurned := ⟨_, _, ok_turned F_turned, F_turned.kp, b_turned, g_turned⟩
  have C_taken : Cal P w K mg base 2 "taken" ["n", "way", "a", "b", "place"] spTaken := ⟨_, _, ok_taken C_turned F_taken, F_taken.kp, b_taken, g_taken⟩
  have C_is_symmetry : Cal P w K mg base 3 "is_symmetry" ["n", "p", "way", "a", "b"] (spIs K) := ⟨_, _, ok_is C_taken F_is_symmetry m_range, F_is_symmetry.kp, b_is_symmetry, g_is_symmetry⟩
  have C_movements_by : Cal P w K mg base 1 "movements_by" ["n", "what"] spMv := ⟨_, _, ok_mv F_movements_by m_range, F_movements_by.kp, b_movements_by, g_movements_by⟩
  have C_symmetries : Cal P w K mg base 4 "symmetries" ["n", "p"] (spSyms K) := ⟨_, _, ok_syms C_is_symmetry C_movements_by F_symmetries, F_symmetries.kp, b_symmetries, g_symmetries⟩
  have C_has_mirror : Cal P w K mg base 4 "has_mirror" ["n", "p", "way"] (spHas K) := ⟨_, _, ok_has C_is_symmetry F_has_mirror m_range, F_has_mirror.kp, b_has_mirror, g_has_mirror⟩
  have C_is_mirror_through : Cal P w K mg base 4 "is_mirror_through" ["n", "p", "way", "x", "y"] (spMT K) := ⟨_, _, ok_mt C_turned C_is_symmetry F_is_mirror_through, F_is_mirror_through.kp, b_is_mirror_through, g_is_mirror_through⟩
  have C_marks_of_ways : Cal P w K mg base 5 "marks_of_ways" ["n", "p", "found"] (spMarks K) := ⟨_, _, ok_marks C_has_mirror F_marks_of_ways m_range, F_marks_of_ways.kp, b_marks_of_ways, g_marks_of_ways⟩
  have C_all_are_on_mirrors : Cal P w K mg base 5 "all_are_on_mirrors" ["n", "p", "found"] (spAll K) := ⟨_, _, ok_all C_is_mirror_through F_all_are_on_mirrors, F_all_are_on_mirrors.kp, b_all_are_on_mirrors, g_all_are_on_mirrors⟩
  have C_some_turn_is_on_mirror : Cal P w K mg base 5 "some_turn_is_on_mirror" ["n", "p", "found"] (spSome K) := ⟨_, _, ok_some C_is_mirror_through F_some_turn_is_on_mirror m_range, F_some_turn_is_on_mirror.kp, b_some_turn_is_on_mirror, g_some_turn_is_on_mirror⟩
  have C_kind_of_turn_1 : Cal P w K mg base 6 "kind_of_turn_1" ["n", "p", "found", "marks"] (spKind K k1) := ⟨_, _, ok_k1 C_all_are_on_mirrors F_kind_of_turn_1 m_max, F_kind_of_turn_1.kp, b_kind_of_turn_1, g_kind_of_turn_1⟩
  have C_kind_of_turn_2 : Cal P w K mg base 6 "kind_of_turn_2" ["n", "p", "found", "marks"] (spKind K k2) := ⟨_, _, ok_k2 C_all_are_on_mirrors F_kind_of_turn_2 m_max, F_kind_of_turn_2.kp, b_kind_of_turn_2, g_kind_of_turn_2⟩
  have C_kind_of_turn_4 : Cal P w K mg base 6 "kind_of_turn_4" ["n", "p", "found", "marks"] (spKind K k4) := ⟨_, _, ok_k4 C_some_turn_is_on_mirror F_kind_of_turn_4 m_max, F_kind_of_turn_4.kp, b_kind_of_turn_4, g_kind_of_turn_4⟩
  have C_is_side : Cal P w K mg base 1 "is_side" ["n"] spSide := ⟨_, _, ok_side F_is_side, F_is_side.kp, b_is_side, g_is_side⟩
  exact ok_kind C_is_side C_symmetries C_marks_of_ways C_kind_of_turn_1 C_kind_of_turn_2 C_kind_of_turn_4 F_kind
end CH
open PySem PySem.W PyProof.Rows
set_option maxRecDepth 100000 in
set_option maxHeartbeats 8000000 in
theorem PySem.Challenge.cw_planerepeats_s02_kind_holds : PySem.Challenge.rw_planerepeats_s02_kind.Holds := by
  w_on; k_headS; (case hw => exact ⟨[.int 0, .list []], by decide +kernel, by decide +kernel⟩)
  k_fillS
  refine L2.walk_specK (r := PySem.Challenge.rw_planerepeats_s02_kind) (k := 7) (CX := L2.CX0) (ps := ["n", "p"]) (sp := CH.spK) (by decide +kernel) rfl rfl ⟨rfl, by decide, by decide⟩ (fun w h Y => PySem.W.kIn_of Y) ?F ?S (fun _ _ _ _ z => z)
  case F =>
    intro w mg fa h Y KX G hmg
    refine' CH.all_mk KX G hmg ?a_turned ?l_turned ?c_turned ?k_turned ?a_taken ?l_taken ?c_taken ?k_taken ?a_is_symmetry ?l_is_symmetry ?c_is_symmetry ?k_is_symmetry ?a_is_mirror_through ?l_is_mirror_through ?c_is_mirror_through ?k_is_mirror_through ?a_some_turn_is_on_mirror ?l_some_turn_is_on_mirror ?c_some_turn_is_on_mirror ?k_some_turn_is_on_mirror ?a_kind_of_turn_4 ?l_kind_of_turn_4 ?c_kind_of_turn_4 ?k_kind_of_turn_4 ?a_all_are_on_mirrors ?l_all_are_on_mirrors ?c_all_are_on_mirrors ?k_all_are_on_mirrors ?a_kind_of_turn_2 ?l_kind_of_turn_2 ?c_kind_of_turn_2 ?k_kind_of_turn_2 ?a_kind_of_turn_1 ?l_kind_of_turn_1 ?c_kind_of_turn_1 ?k_kind_of_turn_1 ?a_has_mirror ?l_has_mirror ?c_has_mirror ?k_has_mirror ?a_marks_of_ways ?l_marks_of_ways ?c_marks_of_ways ?k_marks_of_ways ?a_movements_by ?l_movements_by ?c_movements_by ?k_movements_by ?a_symmetries ?l_symmetries ?c_symmetries ?k_symmetries ?a_is_side ?l_is_side ?c_is_side ?k_is_side ?a_kind ?l_kind ?c_kind ?k_kind ?z_range ?z_max
    (case a_turned => k_is); (case l_turned => k_is); (case c_turned => k_is); (case k_turned => k_is); (case a_taken => k_is); (case l_taken => k_is); (case c_taken => k_is); (case k_taken => k_is); (case a_is_symmetry => k_is); (case l_is_symmetry => k_is); (case c_is_symmetry => k_is); (case k_is_symmetry => k_is); (case a_is_mirror_through => k_is); (case l_is_mirror_through => k_is); (case c_is_mirror_through => k_is); (case k_is_mirror_through => k_is); (case a_some_turn_is_on_mirror => k_is); (case l_some_turn_is_on_mirror => k_is); (case c_some_turn_is_on_mirror => k_is); (case k_some_turn_is_on_mirror => k_is); (case a_kind_of_turn_4 => k_is); (case l_kind_of_turn_4 => k_is); (case c_kind_of_turn_4 => k_is); (case k_kind_of_turn_4 => k_is); (case a_all_are_on_mirrors => k_is); (case l_all_are_on_mirrors => k_is); (case c_all_are_on_mirrors => k_is); (case k_all_are_on_mirrors => k_is); (case a_kind_of_turn_2 => k_is); (case l_kind_of_turn_2 => k_is); (case c_kind_of_turn_2 => k_is); (case k_kind_of_turn_2 => k_is); (case a_kind_of_turn_1 => k_is); (case l_kind_of_turn_1 => k_is); (case c_kind_of_turn_1 => k_is); (case k_kind_of_turn_1 => k_is); (case a_has_mirror => k_is); (case l_has_mirror => k_is); (case c_has_mirror => k_is); (case k_has_mirror => k_is); (case a_marks_of_ways => k_is); (case l_marks_of_ways => k_is); (case c_marks_of_ways => k_is); (case k_marks_of_ways => k_is); (case a_movements_by => k_is); (case l_movements_by => k_is); (case c_movements_by => k_is); (case k_movements_by => k_is); (case a_symmetries => k_is); (case l_symmetries => k_is); (case c_symmetries => k_is); (case k_symmetries => k_is); (case a_is_side => k_is); (case l_is_side => k_is); (case c_is_side => k_is); (case k_is_side => k_is); (case a_kind => k_is); (case l_kind => k_is); (case c_kind => k_is); (case k_kind => k_is); (case z_range => k_is); (case z_max => k_is)
  case S =>
    intro K H xs a hO hwi hask hx
    cases hx with
    | cons h1 h2 =>
      cases h2 with
      | cons h3 h4 =>
        cases h4
        cases h1
        cases h3 with
        | lst hs ha =>
          have e := L2.ints_dw a.2.1 _ ha
          subst e
          exact ⟨_, a.1, a.2.1, rfl, hs, CH.asked_is hask, fun p H' hp => .lst (L2.SqL.of hp) (L2.dw_ints _)⟩
#print axioms PySem.Challenge.cw_planerepeats_s02_kind_holds
