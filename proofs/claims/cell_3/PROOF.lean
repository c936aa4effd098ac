import PyProof.Rows.All
import Wide.All
import OpenK.AllK
import Wide.FinOn
import Open.SpecLaws
import KE.OsGo
import HandS.ForSpec
import HandS.Evl
import HandS.SetFor
import PySem.Challenge.RW_planerepeats_s01_cell
set_option Elab.async false
set_option linter.all false
set_option maxRecDepth 100000
set_option maxHeartbeats 4000000
set_option Elab.async false
namespace CM
open Sa48 Sa48Neutral

/-! ### the place's colour: what is the same modulo n is the same -/
theorem at_mod {p : Pat} {x y x' y' : Int} (hx : x % (p.n : Int) = x' % (p.n : Int)) (hy : y % (p.n : Int) = y' % (p.n : Int)) : p.at_ x y = p.at_ x' y' := by
  unfold Pat.at_
  rw [hx, hy]

theorem mem_rg {n : Nat} {x : Int} : x ∈ rg n ↔ 0 ≤ x ∧ x < (n : Int) := by
  unfold rg
  rw [List.mem_map]
  constructor
  · rintro ⟨i, hi, rfl⟩
    have := List.mem_range.mp hi
    omega
  · rintro ⟨h0, h1⟩
    exact ⟨x.toNat, List.mem_range.mpr (by omega), by omega⟩

theorem emod_add_congr {a b c n : Int} (h : a % n = b % n) : (a + c) % n = (b + c) % n := by
  rw [Int.add_emod, h, ← Int.add_emod]
theorem emod_neg_congr {a b n : Int} (h : a % n = b % n) : (-a) % n = (-b) % n := by
  have h1 : n ∣ a - b := Int.dvd_of_emod_eq_zero (Int.emod_eq_emod_iff_emod_sub_eq_zero.mp h)
  refine Int.emod_eq_emod_iff_emod_sub_eq_zero.mpr ?_
  refine Int.emod_eq_zero_of_dvd ?_
  have e : -a - -b = -(a - b) := by omega
  rw [e]
  exact Int.dvd_neg.mpr h1

theorem turned_congr {a : Nat} {x y x' y' n : Int} (hx : x % n = x' % n) (hy : y % n = y' % n) :
    (turned a x y).1 % n = (turned a x' y').1 % n ∧ (turned a x y).2 % n = (turned a x' y').2 % n := by
  have nx := emod_neg_congr hx
  have ny := emod_neg_congr hy
  unfold turned
  repeat' split
  all_goals (first | exact ⟨hx, hy⟩ | exact ⟨ny, hx⟩ | exact ⟨nx, ny⟩ | exact ⟨hy, nx⟩ | exact ⟨nx, hy⟩ | exact ⟨hx, ny⟩ | exact ⟨hy, hx⟩ | exact ⟨ny, nx⟩)

theorem emod_self_congr (x n : Int) : (x % n) % n = x % n := Int.emod_emod_of_dvd x (Int.dvd_refl n)

/-- a symmetry of the square's places is one of all -/
theorem sym_iff {p : Pat} (hn : 0 < p.n) {a : Nat} {u v : Int} : sym p a u v = true ↔ ∀ x y : Int, p.at_ ((Move.mk a u v).takes x y).1 ((Move.mk a u v).takes x y).2 = p.at_ x y := by
  unfold sym
  rw [List.all_eq_true]
  constructor
  · intro h x y
    have hnz : (0 : Int) < (p.n : Int) := by omega
    have hx : x % (p.n : Int) ∈ rg p.n := mem_rg.mpr ⟨Int.emod_nonneg _ (by omega), Int.emod_lt_of_pos _ hnz⟩
    have hy : y % (p.n : Int) ∈ rg p.n := mem_rg.mpr ⟨Int.emod_nonneg _ (by omega), Int.emod_lt_of_pos _ hnz⟩
    have h1 := List.all_eq_true.mp (h _ hx) _ hy
    have h2 : p.at_ ((Move.mk a u v).takes (x % (p.n : Int)) (y % (p.n : Int))).1 ((Move.mk a u v).takes (x % (p.n : Int)) (y % (p.n : Int))).2 = p.at_ (x % (p.n : Int)) (y % (p.n : Int)) := eq_of_beq h1
    have h3 := turned_congr (a := a) (emod_self_congr x p.n) (emod_self_congr y p.n)
    have e1 : p.at_ ((Move.mk a u v).takes (x % (p.n : Int)) (y % (p.n : Int))).1 ((Move.mk a u v).takes (x % (p.n : Int)) (y % (p.n : Int))).2 = p.at_ ((Move.mk a u v).takes x y).1 ((Move.mk a u v).takes x y).2 :=
      at_mod (emod_add_congr h3.1) (emod_add_congr h3.2)
    have e2 : p.at_ (x % (p.n : Int)) (y % (p.n : Int)) = p.at_ x y := at_mod (emod_self_congr x p.n) (emod_self_congr y p.n)
    rw [← e1, ← e2]
    exact h2
  · intro h x _
    refine List.all_eq_true.mpr fun y _ => ?_
    exact beq_iff_eq.mpr (h x y)

/-! ### shifts -/
def S (p : Pat) (u v : Int) : Prop := ∀ x y : Int, p.at_ (x + u) (y + v) = p.at_ x y
theorem sym0 {p : Pat} (hn : 0 < p.n) {u v : Int} : sym p 0 u v = true ↔ S p u v := sym_iff hn
theorem S.add {p : Pat} {u v u' v' : Int} (h : S p u v) (h' : S p u' v') : S p (u + u') (v + v') := fun x y => by
  have e1 := h' (x + u) (y + v)
  have e2 := h x y
  rw [← Int.add_assoc, ← Int.add_assoc, e1, e2]
theorem S.neg {p : Pat} {u v : Int} (h : S p u v) : S p (-u) (-v) := fun x y => by
  have e := h (x + -u) (y + -v)
  have a1 : x + -u + u = x := by omega
  have a2 : y + -v + v = y := by omega
  rw [a1, a2] at e
  exact e.symm
theorem S.zero {p : Pat} : S p 0 0 := fun x y => by rw [Int.add_zero, Int.add_zero]
theorem S.nmul {p : Pat} {u v : Int} (h : S p u v) : ∀ k : Nat, S p ((k : Int) * u) ((k : Int) * v)
  | 0 => by
    have a : ((0 : Nat) : Int) * u = 0 := by simp
    have b : ((0 : Nat) : Int) * v = 0 := by simp
    rw [a, b]
    exact S.zero
  | k + 1 => by
    have a : ((k + 1 : Nat) : Int) * u = (k : Int) * u + u := by rw [Int.natCast_add, Int.add_mul]; simp
    have b : ((k + 1 : Nat) : Int) * v = (k : Int) * v + v := by rw [Int.natCast_add, Int.add_mul]; simp
    rw [a, b]
    exact (S.nmul h k).add h
theorem S.mul {p : Pat} {u v : Int} (h : S p u v) (k : Int) : S p (k * u) (k * v) := by
  rcases Int.le_total 0 k with hk | hk
  · have e := S.nmul h k.toNat
    rw [Int.toNat_of_nonneg hk] at e
    exact e
  · have e := (S.nmul h (-k).toNat).neg
    rw [Int.toNat_of_nonneg (by omega), Int.neg_mul, Int.neg_mul, Int.neg_neg, Int.neg_neg] at e
    exact e
theorem S.n0 (p : Pat) : S p (p.n : Int) 0 := fun x y => at_mod (by rw [Int.add_emod_right]) (by rw [Int.add_zero])
theorem S.n1 (p : Pat) : S p 0 (p.n : Int) := fun x y => at_mod (by rw [Int.add_zero]) (by rw [Int.add_emod_right])
theorem S.of_eq {p : Pat} {u v u' v' : Int} (h : S p u v) (e1 : u = u') (e2 : v = v') : S p u' v' := by
  subst e1 e2
  exact h

/-! ### the least ones -/
/-- e is the least above 0 with (e, 0) -/
structure Ea (p : Pat) (e : Nat) : Prop where
  pos : 0 < e
  is : S p (e : Int) 0
  least : ∀ k : Nat, 0 < k → k < e → ¬ S p (k : Int) 0
theorem Ea.dvd {p : Pat} {e : Nat} (h : Ea p e) {u : Int} (hu : S p u 0) : (e : Int) ∣ u := by
  have hp := h.pos
  have h1 : S p (u % (e : Int)) 0 := ((hu.add ((h.is.mul (u / (e : Int))).neg))).of_eq (by
    have := Int.mul_ediv_add_emod u (e : Int)
    rw [Int.mul_comm] at this
    omega) (by simp)
  have h2 : 0 ≤ u % (e : Int) := Int.emod_nonneg _ (by omega)
  have h3 : u % (e : Int) < (e : Int) := Int.emod_lt_of_pos _ (by omega)
  by_cases hz : u % (e : Int) = 0
  · exact Int.dvd_of_emod_eq_zero hz
  · have hk : S p ((u % (e : Int)).toNat : Int) 0 := h1.of_eq (by omega) rfl
    exact absurd hk (h.least _ (by omega) (by omega))
theorem Ea.iff {p : Pat} {e : Nat} (h : Ea p e) {u : Int} : S p u 0 ↔ (e : Int) ∣ u := by
  refine ⟨h.dvd, fun ⟨k, hk⟩ => (h.is.mul k).of_eq (by rw [hk, Int.mul_comm]) (by simp)⟩
/-- g is the least above 0 with some (f, g), f below e -/
structure Ga (p : Pat) (e f g : Nat) : Prop where
  pos : 0 < g
  lt : f < e
  is : S p (f : Int) (g : Int)
  least : ∀ k : Nat, 0 < k → k < g → ∀ u : Int, ¬ S p u (k : Int)
theorem Ga.dvd {p : Pat} {e f g : Nat} (h : Ga p e f g) {u v : Int} (hu : S p u v) : (g : Int) ∣ v := by
  have hp := h.pos
  have h1 : S p (u - v / (g : Int) * (f : Int)) (v % (g : Int)) := ((hu.add ((h.is.mul (v / (g : Int))).neg))).of_eq (by omega) (by
    have := Int.mul_ediv_add_emod v (g : Int)
    rw [Int.mul_comm] at this
    omega)
  have h2 : 0 ≤ v % (g : Int) := Int.emod_nonneg _ (by omega)
  have h3 : v % (g : Int) < (g : Int) := Int.emod_lt_of_pos _ (by omega)
  by_cases hz : v % (g : Int) = 0
  · exact Int.dvd_of_emod_eq_zero hz
  · have hk : S p (u - v / (g : Int) * (f : Int)) ((v % (g : Int)).toNat : Int) := h1.of_eq rfl (by omega)
    exact absurd hk (h.least _ (by omega) (by omega) _)
theorem SG_iff {p : Pat} {e f g : Nat} (he : Ea p e) (h : Ga p e f g) {u v : Int} : S p u v ↔ (g : Int) ∣ v ∧ (e : Int) ∣ u - v / (g : Int) * (f : Int) := by
  have hp := h.pos
  constructor
  · intro hu
    have hd := h.dvd hu
    refine ⟨hd, he.dvd ?_⟩
    obtain ⟨k, hk⟩ := hd
    have hq : v / (g : Int) = k := by rw [hk]; exact Int.mul_ediv_cancel_left k (by omega)
    rw [hq]
    exact (hu.add ((h.is.mul k).neg)).of_eq (by omega) (by rw [hk, Int.mul_comm]; omega)
  · rintro ⟨⟨k, hk⟩, hd⟩
    have hq : v / (g : Int) = k := by rw [hk]; exact Int.mul_ediv_cancel_left k (by omega)
    rw [hq] at hd
    have h1 := he.iff.mpr hd
    exact (h1.add (h.is.mul k)).of_eq (by omega) (by rw [hk, Int.mul_comm]; omega)

/-! ### counting, for n up to 6: e, f, g decide it -/
def cnt (n e f g : Nat) : Nat := ((((List.range n).flatMap fun (u : Nat) => (List.range n).map fun (v : Nat) => decide ((v : Int) % (g : Int) = 0 ∧ ((u : Int) - (v : Int) / (g : Int) * (f : Int)) % (e : Int) = 0)).filter fun b => b).length)
theorem cnt_all : ∀ n ∈ [1, 2, 3, 4, 5, 6], ∀ e ∈ List.range 7, ∀ g ∈ List.range 7, ∀ f ∈ List.range 7, 0 < e → 0 < g → n % e = 0 → n % g = 0 → f < e → cnt n e f g = (n / e) * (n / g) := by
  decide +kernel

theorem find_getD_eq {l : Nat} {P : Nat → Bool} {k : Nat} (hk : k < l) (h : P k = true) (hl : ∀ j, j < k → P j = false) : ((List.range l).find? P).getD 0 = k := by
  have e : (List.range l).find? P = some k := by
    rw [List.find?_eq_some_iff_append]
    refine ⟨h, List.range k, (List.range' (k + 1) (l - k - 1)), ?_, ?_⟩
    · rw [List.range_eq_range', List.range_eq_range']
      have e1 : l = k + (1 + (l - k - 1)) := by omega
      conv => lhs; rw [e1]
      rw [← List.range'_append_1, Nat.zero_add, ← List.range'_append_1]
      rfl
    · intro j hj
      have := List.mem_range.mp hj
      rw [hl j this]
      rfl
  rw [e]
  rfl

theorem cell_spec {n : Nat} {c : List Int} {e f g : Nat} (hn : 1 ≤ n ∧ n ≤ 6) (he : Ea ⟨n, nats c⟩ e) (hg : Ga ⟨n, nats c⟩ e f g) :
    PySa48.cell (n : Int) c = [0, (e : Int), (f : Int), (g : Int), ((n / e) * (n / g) : Nat)] := by
  have hn0 : 0 < (⟨n, nats c⟩ : Pat).n := by show 0 < n; omega
  have en : e ∣ n := Int.natCast_dvd_natCast.mp (he.dvd (S.n0 ⟨n, nats c⟩))
  have gn : g ∣ n := Int.natCast_dvd_natCast.mp (hg.dvd (S.n1 ⟨n, nats c⟩))
  have e0 := he.pos
  have g0 := hg.pos
  have ele : e ≤ n := Nat.le_of_dvd (by omega) en
  have gle : g ≤ n := Nat.le_of_dvd (by omega) gn
  have fl := hg.lt
  have sS : ∀ u v : Nat, sym ⟨n, nats c⟩ 0 (u : Int) (v : Int) = decide ((v : Int) % (g : Int) = 0 ∧ ((u : Int) - (v : Int) / (g : Int) * (f : Int)) % (e : Int) = 0) := fun u v => by
    rw [Bool.eq_iff_iff, sym0 hn0, SG_iff he hg, decide_eq_true_iff, Int.dvd_iff_emod_eq_zero, Int.dvd_iff_emod_eq_zero]
  have hE : ((List.range n).find? fun (u : Nat) => sym ⟨n, nats c⟩ 0 ((u + 1 : Nat) : Int) ((0 : Nat) : Int)).getD 0 = e - 1 := by
    refine find_getD_eq (by omega) ?_ fun j hj => ?_
    · rw [sym0 hn0]
      exact he.is.of_eq (by omega) rfl
    · rw [← Bool.not_eq_true, sym0 hn0]
      exact he.least (j + 1) (by omega) (by omega)
  have hG : ((List.range n).find? fun (v : Nat) => (List.range n).any fun (u : Nat) => sym ⟨n, nats c⟩ 0 (u : Int) ((v + 1 : Nat) : Int)).getD 0 = g - 1 := by
    refine find_getD_eq (by omega) ?_ fun j hj => ?_
    · rw [List.any_eq_true]
      refine ⟨f, List.mem_range.mpr (by omega), ?_⟩
      rw [sym0 hn0]
      exact hg.is.of_eq rfl (by omega)
    · rw [← Bool.not_eq_true, List.any_eq_true]
      rintro ⟨u, _, hu⟩
      rw [sym0 hn0] at hu
      exact hg.least (j + 1) (by omega) (by omega) _ hu
  have hF : ((List.range e).find? fun (u : Nat) => sym ⟨n, nats c⟩ 0 (u : Int) (g : Int)).getD 0 = f := by
    refine find_getD_eq fl ?_ fun j hj => ?_
    · rw [sym0 hn0]
      exact hg.is
    · rw [← Bool.not_eq_true, sym0 hn0]
      intro hs
      have h2 : S ⟨n, nats c⟩ (((f - j : Nat)) : Int) 0 := (hg.is.add hs.neg).of_eq (by omega) (by omega)
      exact he.least (f - j) (by omega) (by omega) h2
  have hc : (((List.range n).flatMap fun (u : Nat) => (List.range n).map fun (v : Nat) => sym ⟨n, nats c⟩ 0 (u : Int) (v : Int)).filter fun b => b).length = (n / e) * (n / g) := by
    have h1 := cnt_all n (by
      have : n = 1 ∨ n = 2 ∨ n = 3 ∨ n = 4 ∨ n = 5 ∨ n = 6 := by omega
      rcases this with rfl | rfl | rfl | rfl | rfl | rfl <;> decide) e (List.mem_range.mpr (by omega)) g (List.mem_range.mpr (by omega)) f (List.mem_range.mpr (by omega)) e0 g0 (Nat.mod_eq_zero_of_dvd en) (Nat.mod_eq_zero_of_dvd gn) fl
    rw [← h1]
    unfold cnt
    simp only [sS]
  show (if (n : Int).toNat < 1 ∨ 64 < (n : Int).toNat then [-2] else _) = _
  rw [if_neg (by omega)]
  have hnn : (n : Int).toNat = n := Int.toNat_natCast n
  dsimp only
  rw [hnn, hE, hG]
  have g1 : g - 1 + 1 = g := by omega
  have e1 : e - 1 + 1 = e := by omega
  rw [g1, e1, hF, hc]
  rfl
theorem cell_bad {n : Int} {c : List Int} (h : n < 1 ∨ 64 < n) : PySa48.cell n c = [-2] := by
  show (if n.toNat < 1 ∨ 64 < n.toNat then [-2] else _) = _
  rw [if_pos (by omega)]
end CM

set_option Elab.async false
namespace MM
open Sa48 Sa48Neutral

/-! ### a symmetry's shift, modulo n -/
theorem emod_add_congr2 {a a' b b' n : Int} (h : a % n = a' % n) (h' : b % n = b' % n) : (a + b) % n = (a' + b') % n := by
  rw [Int.add_emod, h, h', ← Int.add_emod]
theorem sym_congr {p : Pat} {a : Nat} {u v u' v' : Int} (hu : u % (p.n : Int) = u' % (p.n : Int)) (hv : v % (p.n : Int) = v' % (p.n : Int)) : sym p a u v = sym p a u' v' := by
  have e : ∀ x y : Int, p.at_ ((Move.mk a u v).takes x y).1 ((Move.mk a u v).takes x y).2 = p.at_ ((Move.mk a u' v').takes x y).1 ((Move.mk a u' v').takes x y).2 := fun x y =>
    CM.at_mod (emod_add_congr2 rfl hu) (emod_add_congr2 rfl hv)
  unfold sym
  dsimp only
  simp only [e]
theorem place_congr {p : Pat} {a : Nat} {u v u' v' : Int} (k : Nat) (hu : u % (p.n : Int) = u' % (p.n : Int)) (hv : v % (p.n : Int) = v' % (p.n : Int)) : place p a u v k = place p a u' v' k := by
  unfold place
  dsimp only
  have e1 : ∀ x y : Int, ((Move.mk a u v).takes x y).1 % (p.n : Int) = ((Move.mk a u' v').takes x y).1 % (p.n : Int) := fun x y => emod_add_congr2 rfl hu
  have e2 : ∀ x y : Int, ((Move.mk a u v).takes x y).2 % (p.n : Int) = ((Move.mk a u' v').takes x y).2 % (p.n : Int) := fun x y => emod_add_congr2 rfl hv
  rw [e1, e2]
theorem ix_lt {n y x : Nat} (hy : y < n) (hx : x < n) : y * n + x < n * n := by
  have h1 : (y + 1) * n ≤ n * n := Nat.mul_le_mul_right n hy
  rw [Nat.add_mul, Nat.one_mul] at h1
  omega
theorem place_lt {p : Pat} (hn : 0 < p.n) (a : Nat) (u v : Int) (k : Nat) : place p a u v k < p.n * p.n := by
  unfold place
  dsimp only
  have h0 : (0 : Int) < (p.n : Int) := by omega
  refine ix_lt ?_ ?_
  · have h1 := Int.emod_nonneg ((Move.mk a u v).takes ((k % p.n : Nat) : Int) ((k / p.n : Nat) : Int)).2 (b := (p.n : Int)) (by omega)
    have h2 := Int.emod_lt_of_pos ((Move.mk a u v).takes ((k % p.n : Nat) : Int) ((k / p.n : Nat) : Int)).2 h0
    omega
  · have h1 := Int.emod_nonneg ((Move.mk a u v).takes ((k % p.n : Nat) : Int) ((k / p.n : Nat) : Int)).1 (b := (p.n : Int)) (by omega)
    have h2 := Int.emod_lt_of_pos ((Move.mk a u v).takes ((k % p.n : Nat) : Int) ((k / p.n : Nat) : Int)).1 h0
    omega

/-! ### the eight: one behind another, back -/
def inv (a : Nat) : Nat := if a = 1 then 3 else if a = 3 then 1 else a
def comp (a b : Nat) : Nat := (([[0, 1, 2, 3, 4, 5, 6, 7], [1, 2, 3, 0, 7, 6, 4, 5], [2, 3, 0, 1, 5, 4, 7, 6], [3, 0, 1, 2, 6, 7, 5, 4], [4, 6, 5, 7, 0, 2, 1, 3], [5, 7, 4, 6, 2, 0, 3, 1], [6, 5, 7, 4, 3, 1, 0, 2], [7, 4, 6, 5, 1, 3, 2, 0]] : List (List Nat)).getD a []).getD b 0
theorem comp_turned : ∀ a b : Nat, a < 8 → b < 8 → comp a b < 8 ∧ ∀ x y : Int, turned a (turned b x y).1 (turned b x y).2 = turned (comp a b) x y := by
  intro a b ha hb
  have h1 : a = 0 ∨ a = 1 ∨ a = 2 ∨ a = 3 ∨ a = 4 ∨ a = 5 ∨ a = 6 ∨ a = 7 := by omega
  have h2 : b = 0 ∨ b = 1 ∨ b = 2 ∨ b = 3 ∨ b = 4 ∨ b = 5 ∨ b = 6 ∨ b = 7 := by omega
  rcases h1 with rfl | rfl | rfl | rfl | rfl | rfl | rfl | rfl <;> rcases h2 with rfl | rfl | rfl | rfl | rfl | rfl | rfl | rfl <;>
    exact ⟨by decide, fun x y => by simp [turned, comp]⟩
theorem inv_turned (a : Nat) (ha : a < 8) : inv a < 8 ∧ (∀ x y : Int, turned (inv a) (turned a x y).1 (turned a x y).2 = (x, y)) ∧ ∀ x y : Int, turned a (turned (inv a) x y).1 (turned (inv a) x y).2 = (x, y) := by
  have h1 : a = 0 ∨ a = 1 ∨ a = 2 ∨ a = 3 ∨ a = 4 ∨ a = 5 ∨ a = 6 ∨ a = 7 := by omega
  rcases h1 with rfl | rfl | rfl | rfl | rfl | rfl | rfl | rfl <;>
    exact ⟨by decide, fun x y => by simp [turned, inv], fun x y => by simp [turned, inv]⟩
theorem turned_add (a : Nat) (x y u v : Int) : turned a (x + u) (y + v) = ((turned a x y).1 + (turned a u v).1, (turned a x y).2 + (turned a u v).2) := by
  unfold turned
  repeat' split
  all_goals (refine Prod.ext ?_ ?_ <;> (dsimp only) <;> omega)
theorem turned_neg (a : Nat) (x y : Int) : turned a (-x) (-y) = (-(turned a x y).1, -(turned a x y).2) := by
  unfold turned
  repeat' split
  all_goals (refine Prod.ext ?_ ?_ <;> (dsimp only) <;> omega)

/-! ### what symmetries there are -/
def All (p : Pat) (a : Nat) (u v : Int) : Prop := ∀ x y : Int, p.at_ ((Move.mk a u v).takes x y).1 ((Move.mk a u v).takes x y).2 = p.at_ x y
theorem takes_eq (a : Nat) (u v x y : Int) : (Move.mk a u v).takes x y = ((turned a x y).1 + u, (turned a x y).2 + v) := rfl
/-- one behind another -/
def cu (a' : Nat) (u v u' : Int) : Int := (turned a' u v).1 + u'
def cv (a' : Nat) (u v v' : Int) : Int := (turned a' u v).2 + v'
theorem takes_comp {a a' : Nat} (ha : a < 8) (ha' : a' < 8) (u v u' v' x y : Int) :
    (Move.mk a' u' v').takes ((Move.mk a u v).takes x y).1 ((Move.mk a u v).takes x y).2 = (Move.mk (comp a' a) (cu a' u v u') (cv a' u v v')).takes x y := by
  rw [takes_eq, takes_eq, takes_eq]
  dsimp only
  rw [turned_add, (comp_turned a' a ha' ha).2]
  unfold cu cv
  refine Prod.ext ?_ ?_ <;> (dsimp only) <;> omega
def iu (a : Nat) (u v : Int) : Int := -(turned (inv a) u v).1
def iv (a : Nat) (u v : Int) : Int := -(turned (inv a) u v).2
theorem takes_inv {a : Nat} (ha : a < 8) (u v x y : Int) : (Move.mk (inv a) (iu a u v) (iv a u v)).takes ((Move.mk a u v).takes x y).1 ((Move.mk a u v).takes x y).2 = (x, y) := by
  rw [takes_eq, takes_eq]
  dsimp only
  rw [turned_add, (inv_turned a ha).2.1]
  unfold iu iv
  refine Prod.ext ?_ ?_ <;> (dsimp only) <;> omega
theorem takes_inv' {a : Nat} (ha : a < 8) (u v x y : Int) : (Move.mk a u v).takes ((Move.mk (inv a) (iu a u v) (iv a u v)).takes x y).1 ((Move.mk (inv a) (iu a u v) (iv a u v)).takes x y).2 = (x, y) := by
  rw [takes_eq, takes_eq]
  dsimp only
  rw [turned_add]
  unfold iu iv
  rw [turned_neg, (inv_turned a ha).2.2, (inv_turned a ha).2.2]
  refine Prod.ext ?_ ?_ <;> (dsimp only) <;> omega
theorem All.comp {p : Pat} {a a' : Nat} {u v u' v' : Int} (ha : a < 8) (ha' : a' < 8) (h : All p a u v) (h' : All p a' u' v') : All p (comp a' a) (cu a' u v u') (cv a' u v v') := fun x y => by
  rw [← takes_comp ha ha', h', h]
theorem All.inv {p : Pat} {a : Nat} {u v : Int} (ha : a < 8) (h : All p a u v) : All p (inv a) (iu a u v) (iv a u v) := fun x y => by
  rw [← h, takes_inv' ha]
theorem All.id (p : Pat) : All p 0 0 0 := fun x y => by
  show p.at_ (x + 0) (y + 0) = _
  rw [Int.add_zero, Int.add_zero]

/-! ### places by their two numbers -/
theorem ix_mod {n y x : Nat} (hx : x < n) : (y * n + x) % n = x := by
  rw [Nat.add_comm, Nat.add_mul_mod_self_right, Nat.mod_eq_of_lt hx]
theorem ix_div {n y x : Nat} (hx : x < n) : (y * n + x) / n = y := by
  rw [Nat.add_comm, Nat.add_mul_div_right _ _ (by omega), Nat.div_eq_of_lt hx, Nat.zero_add]
theorem place_mod {p : Pat} (hn : 0 < p.n) (a : Nat) (u v : Int) (k : Nat) : ((place p a u v k % p.n : Nat) : Int) = ((Move.mk a u v).takes ((k % p.n : Nat) : Int) ((k / p.n : Nat) : Int)).1 % (p.n : Int) ∧
    ((place p a u v k / p.n : Nat) : Int) = ((Move.mk a u v).takes ((k % p.n : Nat) : Int) ((k / p.n : Nat) : Int)).2 % (p.n : Int) := by
  have h0 : (0 : Int) < (p.n : Int) := by omega
  unfold place
  dsimp only
  have h1 := Int.emod_nonneg ((Move.mk a u v).takes ((k % p.n : Nat) : Int) ((k / p.n : Nat) : Int)).1 (b := (p.n : Int)) (by omega)
  have h2 := Int.emod_lt_of_pos ((Move.mk a u v).takes ((k % p.n : Nat) : Int) ((k / p.n : Nat) : Int)).1 h0
  have h3 := Int.emod_nonneg ((Move.mk a u v).takes ((k % p.n : Nat) : Int) ((k / p.n : Nat) : Int)).2 (b := (p.n : Int)) (by omega)
  rw [ix_mod (by omega), ix_div (by omega)]
  omega
/-- two places with the same two numbers -/
theorem same_place {n i k : Nat} (h1 : i % n = k % n) (h2 : i / n = k / n) : i = k := by
  rw [← Nat.div_add_mod i n, ← Nat.div_add_mod k n, h1, h2]
theorem div_lt_of {n k : Nat} (hk : k < n * n) : k / n < n := Nat.div_lt_of_lt_mul hk
theorem mod_self_small {n k : Nat} (h : k < n) : ((k : Nat) : Int) % (n : Int) = (k : Int) := by
  rw [← Int.natCast_emod, Nat.mod_eq_of_lt h]
theorem place_comp {p : Pat} (hn : 0 < p.n) {a a' : Nat} (ha : a < 8) (ha' : a' < 8) (u v u' v' : Int) (k : Nat) : place p a' u' v' (place p a u v k) = place p (comp a' a) (cu a' u v u') (cv a' u v v') k := by
  have m1 := place_mod hn a u v k
  have m2 := place_mod hn a' u' v' (place p a u v k)
  have m3 := place_mod hn (comp a' a) (cu a' u v u') (cv a' u v v') k
  rw [← takes_comp ha ha'] at m3
  rw [m1.1, m1.2] at m2
  have t := CM.turned_congr (a := a') (CM.emod_self_congr ((Move.mk a u v).takes ((k % p.n : Nat) : Int) ((k / p.n : Nat) : Int)).1 p.n) (CM.emod_self_congr ((Move.mk a u v).takes ((k % p.n : Nat) : Int) ((k / p.n : Nat) : Int)).2 p.n)
  have e1 := CM.emod_add_congr (c := u') t.1
  have e2 := CM.emod_add_congr (c := v') t.2
  refine same_place (n := p.n) ?_ ?_
  · exact Int.ofNat.inj (m2.1.trans (e1.trans m3.1.symm))
  · exact Int.ofNat.inj (m2.2.trans (e2.trans m3.2.symm))
theorem place_id {p : Pat} {k : Nat} (hk : k < p.n * p.n) : place p 0 0 0 k = k := by
  have hn : 0 < p.n := by
    rcases Nat.eq_zero_or_pos p.n with h | h
    · rw [h] at hk
      omega
    · exact h
  have m := place_mod hn 0 0 0 k
  have e : ∀ x y : Int, (Move.mk 0 0 0).takes x y = (x, y) := fun x y => by
    rw [takes_eq]
    show (x + 0, y + 0) = _
    rw [Int.add_zero, Int.add_zero]
  rw [e] at m
  refine same_place (n := p.n) ?_ ?_
  · have h := m.1
    dsimp only at h
    rw [mod_self_small (Nat.mod_lt _ hn)] at h
    exact Int.ofNat.inj h
  · have h := m.2
    dsimp only at h
    rw [mod_self_small (div_lt_of hk)] at h
    exact Int.ofNat.inj h
theorem place_inv {p : Pat} {a : Nat} (ha : a < 8) (u v : Int) {k : Nat} (hk : k < p.n * p.n) : place p (inv a) (iu a u v) (iv a u v) (place p a u v k) = k := by
  have hn : 0 < p.n := by
    rcases Nat.eq_zero_or_pos p.n with h | h
    · rw [h] at hk
      omega
    · exact h
  have m1 := place_mod hn a u v k
  have m2 := place_mod hn (inv a) (iu a u v) (iv a u v) (place p a u v k)
  rw [m1.1, m1.2] at m2
  have t := CM.turned_congr (a := inv a) (CM.emod_self_congr ((Move.mk a u v).takes ((k % p.n : Nat) : Int) ((k / p.n : Nat) : Int)).1 p.n) (CM.emod_self_congr ((Move.mk a u v).takes ((k % p.n : Nat) : Int) ((k / p.n : Nat) : Int)).2 p.n)
  have e1 := CM.emod_add_congr (c := iu a u v) t.1
  have e2 := CM.emod_add_congr (c := iv a u v) t.2
  have i := takes_inv ha u v ((k % p.n : Nat) : Int) ((k / p.n : Nat) : Int)
  have i1 := congrArg Prod.fst i
  have i2 := congrArg Prod.snd i
  refine same_place (n := p.n) ?_ ?_
  · refine Int.ofNat.inj (m2.1.trans (e1.trans ?_))
    show ((Move.mk (inv a) (iu a u v) (iv a u v)).takes ((Move.mk a u v).takes ((k % p.n : Nat) : Int) ((k / p.n : Nat) : Int)).1 ((Move.mk a u v).takes ((k % p.n : Nat) : Int) ((k / p.n : Nat) : Int)).2).1 % (p.n : Int) = _
    rw [i1]
    exact mod_self_small (Nat.mod_lt _ hn)
  · refine Int.ofNat.inj (m2.2.trans (e2.trans ?_))
    show ((Move.mk (inv a) (iu a u v) (iv a u v)).takes ((Move.mk a u v).takes ((k % p.n : Nat) : Int) ((k / p.n : Nat) : Int)).1 ((Move.mk a u v).takes ((k % p.n : Nat) : Int) ((k / p.n : Nat) : Int)).2).2 % (p.n : Int) = _
    rw [i2]
    exact mod_self_small (div_lt_of hk)
end MM

namespace CH
open PySem PySem.Spec PyProof.Rows L2 Evl
open PySem.W (Codec)
/-! ### the text -/
def topS (i : Nat) : Stmt := PySem.Challenge.pw_planerepeats_s01_cell.main.body.getD i (.Pass ⟨0, 0, 0, 0⟩)
/-! def turned: slots 0 way 1 x 2 y 3 images; calls none; built-ins none -/
abbrev s_turned : Stmt := topS 1
theorem sc_turned : FnScope ["way", "x", "y", "images"] ["way", "x", "y"] (defScope s_turned) := ⟨rfl, rfl, rfl, by decide +kernel, rfl, by decide +kernel, by decide +kernel⟩
/-! def taken: slots 0 n 1 way 2 a 3 b 4 place 5 image; calls turned; built-ins none -/
abbrev s_taken : Stmt := topS 2
theorem sc_taken : FnScope ["n", "way", "a", "b", "place", "image"] ["n", "way", "a", "b", "place"] (defScope s_taken) := ⟨rfl, rfl, rfl, by decide +kernel, rfl, by decide +kernel, by decide +kernel⟩
/-! def is_symmetry: slots 0 n 1 p 2 way 3 a 4 b 5 place; calls taken; built-ins range -/
abbrev s_is_symmetry : Stmt := topS 3
theorem sc_is_symmetry : FnScope ["n", "p", "way", "a", "b", "place"] ["n", "p", "way", "a", "b"] (defScope s_is_symmetry) := ⟨rfl, rfl, rfl, by decide +kernel, rfl, by decide +kernel, by decide +kernel⟩
/-! def cell: slots 0 n 1 p 2 e 3 slanted 4 f 5 g; calls least_down, least_across, is_side; built-ins none -/
abbrev s_cell : Stmt := topS 5
theorem sc_cell : FnScope ["n", "p", "e", "slanted", "f", "g"] ["n", "p"] (defScope s_cell) := ⟨rfl, rfl, rfl, by decide +kernel, rfl, by decide +kernel, by decide +kernel⟩
/-! def is_side: slots 0 n; calls none; built-ins none -/
abbrev s_is_side : Stmt := topS 6
theorem sc_is_side : FnScope ["n"] ["n"] (defScope s_is_side) := ⟨rfl, rfl, rfl, by decide +kernel, rfl, by decide +kernel, by decide +kernel⟩
/-! def least_across: slots 0 n 1 p 2 e; calls is_symmetry; built-ins range -/
abbrev s_least_across : Stmt := topS 7
theorem sc_least_across : FnScope ["n", "p", "e"] ["n", "p"] (defScope s_least_across) := ⟨rfl, rfl, rfl, by decide +kernel, rfl, by decide +kernel, by decide +kernel⟩
/-! def least_down: slots 0 n 1 p 2 e 3 g 4 f; calls is_symmetry; built-ins range -/
abbrev s_least_down : Stmt := topS 8
theorem sc_least_down : FnScope ["n", "p", "e", "g", "f"] ["n", "p", "e"] (defScope s_least_down) := ⟨rfl, rfl, rfl, by decide +kernel, rfl, by decide +kernel, by decide +kernel⟩
/-! ### what is known of a request -/
def gt (c : List Int) (k : Nat) : Int := c.getD k 0
structure Rq (n : Nat) (c : List Int) : Prop where
  lo : 1 ≤ n
  hi : n ≤ 6
  len : c.length = n * n
  nn : ∀ z ∈ c, 0 ≤ z
abbrev Pt (n : Nat) (c : List Int) : Sa48.Pat := ⟨n, Sa48Neutral.nats c⟩
/-- where a movement takes a place of the square -/
def pl (n w : Nat) (a b : Int) (k : Nat) : Nat := Sa48Neutral.place ⟨n, []⟩ w a b k
theorem pl_eq (n w : Nat) (a b : Int) (k : Nat) (c : List Int) : Sa48Neutral.place (Pt n c) w a b k = pl n w a b k := rfl
theorem pl_lt {n : Nat} (hn : 1 ≤ n) (w : Nat) (a b : Int) (k : Nat) : pl n w a b k < n * n := MM.place_lt (p := ⟨n, []⟩) (by show 0 < n; omega) w a b k
theorem at_int {c : List Int} {i : Int} {k : Nat} (e : i = (k : Int)) (hk : k < c.length) : atI (c.map V.int) i = some (.int (gt c k)) := by
  rw [e]
  refine atI_nat ?_
  rw [List.getElem?_map, List.getElem?_eq_getElem hk]
  unfold gt
  rw [List.getD_eq_getElem?_getD, List.getElem?_eq_getElem hk]
  rfl
theorem getD_nats : ∀ (c : List Int) (k : Nat), (Sa48Neutral.nats c).getD k 0 = (gt c k).toNat
  | [], k => by
    show ([] : List Nat).getD k 0 = (([] : List Int).getD k 0).toNat
    rw [List.getD_nil, List.getD_nil]
    rfl
  | z :: c, 0 => rfl
  | z :: c, k + 1 => by
    have ih := getD_nats c k
    unfold gt at ih ⊢
    rw [List.getD_cons_succ, ← ih]
    exact List.getD_cons_succ
theorem gt_nn {c : List Int} (hc : ∀ z ∈ c, 0 ≤ z) (k : Nat) : 0 ≤ gt c k := by
  unfold gt
  rw [List.getD_eq_getElem?_getD]
  cases e : c[k]? with
  | none => exact Int.le_refl 0
  | some z => exact hc z (List.mem_of_getElem? e)
/-- a symmetry, by the colours of the square's places -/
theorem sym_all {n : Nat} {c : List Int} (R : Rq n c) {w : Nat} {a b : Int} : Sa48Neutral.sym (Pt n c) w a b = true ↔ ∀ k, k < n * n → gt c k = gt c (pl n w a b k) := by
  have n1 := R.lo
  have key : ∀ k, k < n * n → ((Pt n c).at_ ((Sa48.Move.mk w a b).takes ((k % n : Nat) : Int) ((k / n : Nat) : Int)).1 ((Sa48.Move.mk w a b).takes ((k % n : Nat) : Int) ((k / n : Nat) : Int)).2 = (Pt n c).at_ ((k % n : Nat) : Int) ((k / n : Nat) : Int) ↔ gt c k = gt c (pl n w a b k)) := fun k hk => by
    have h1 : (Pt n c).at_ ((Sa48.Move.mk w a b).takes ((k % n : Nat) : Int) ((k / n : Nat) : Int)).1 ((Sa48.Move.mk w a b).takes ((k % n : Nat) : Int) ((k / n : Nat) : Int)).2 = (gt c (pl n w a b k)).toNat := by
      rw [← getD_nats]
      rfl
    have h2 : (Pt n c).at_ ((k % n : Nat) : Int) ((k / n : Nat) : Int) = (gt c k).toNat := by
      rw [← getD_nats]
      unfold Sa48.Pat.at_
      dsimp only
      rw [MM.mod_self_small (Nat.mod_lt _ (by omega)), MM.mod_self_small (MM.div_lt_of hk), Int.toNat_natCast, Int.toNat_natCast, Nat.mul_comm, Nat.div_add_mod]
    rw [h1, h2]
    have g1 := gt_nn R.nn k
    have g2 := gt_nn R.nn (pl n w a b k)
    omega
  unfold Sa48Neutral.sym
  rw [List.all_eq_true]
  constructor
  · intro h k hk
    refine (key k hk).mp ?_
    have hx : ((k % n : Nat) : Int) ∈ Sa48Neutral.rg n := CM.mem_rg.mpr ⟨Int.natCast_nonneg _, Int.ofNat_lt.mpr (Nat.mod_lt k (by omega))⟩
    have hy : ((k / n : Nat) : Int) ∈ Sa48Neutral.rg n := CM.mem_rg.mpr ⟨Int.natCast_nonneg _, Int.ofNat_lt.mpr (MM.div_lt_of hk)⟩
    exact eq_of_beq (List.all_eq_true.mp (h _ hx) _ hy)
  · intro h x hx
    refine List.all_eq_true.mpr fun y hy => ?_
    have hx' := CM.mem_rg.mp hx
    have hy' := CM.mem_rg.mp hy
    have hx2 : x < (n : Int) := hx'.2
    have hy2 : y < (n : Int) := hy'.2
    have hk : y.toNat * n + x.toNat < n * n := MM.ix_lt (by omega) (by omega)
    have z := (key _ hk).mpr (h _ hk)
    rw [MM.ix_mod (by omega), MM.ix_div (by omega), Int.toNat_of_nonneg hx'.1, Int.toNat_of_nonneg hy'.1] at z
    exact beq_iff_eq.mpr z
/-! ### tuples made on the way -/
def Tups (H : Hp) : List V → List (List V) → Prop
  | [], [] => True
  | v :: vs, xs :: xss => (∃ a, v = .ref a ∧ H a = some (.tup xs)) ∧ Tups H vs xss
  | _, _ => False
theorem Tups.mono {H H' : Hp} (e : Ex H H') : ∀ {vs : List V} {xss : List (List V)}, Tups H vs xss → Tups H' vs xss
  | [], [], _ => trivial
  | _ :: _, _ :: _, ⟨⟨a, h1, h2⟩, h3⟩ => ⟨⟨a, h1, e _ _ h2⟩, Tups.mono e h3⟩
theorem Tups.upd {H : Hp} {l : Addr} {ys : List V} {o : HO} (hl : H l = some (.lst ys)) : ∀ {vs : List V} {xss : List (List V)}, Tups H vs xss → Tups (upd H l o) vs xss
  | [], [], _ => trivial
  | _ :: _, _ :: _, ⟨⟨a, h1, h2⟩, h3⟩ => ⟨⟨a, h1, by
      rw [upd_ne (fun z => by rw [z, hl] at h2; cases h2)]
      exact h2⟩, Tups.upd hl h3⟩
theorem Tups.app {H : Hp} {p : Addr} {zs : List V} (hp : H p = some (.tup zs)) : ∀ {vs : List V} {xss : List (List V)}, Tups H vs xss → Tups H (vs ++ [.ref p]) (xss ++ [zs])
  | [], [], _ => ⟨⟨p, rfl, hp⟩, trivial⟩
  | _ :: _, _ :: _, ⟨h1, h3⟩ => ⟨h1, Tups.app hp h3⟩
theorem Tups.len {H : Hp} : ∀ {vs : List V} {xss : List (List V)}, Tups H vs xss → vs.length = xss.length
  | [], [], _ => rfl
  | _ :: _, _ :: _, ⟨_, h3⟩ => congrArg (· + 1) h3.len
theorem Tups.get {H : Hp} : ∀ {vs : List V} {xss : List (List V)}, Tups H vs xss → ∀ {i : Nat} {x : V}, vs[i]? = some x → ∃ xs a, xss[i]? = some xs ∧ x = .ref a ∧ H a = some (.tup xs)
  | [], [], _, i, x, h => by simp at h
  | v :: vs, xs :: xss, ⟨⟨a, h1, h2⟩, h3⟩, 0, x, h => by
    have e : v = x := Option.some.inj h
    exact ⟨xs, a, rfl, e.symm.trans h1, h2⟩
  | v :: vs, xs :: xss, ⟨_, h3⟩, i + 1, x, h => by
    obtain ⟨zs, a, h1, h2, h4⟩ := h3.get (i := i) h
    exact ⟨zs, a, h1, h2, h4⟩
theorem Tups.at {H : Hp} : ∀ {vs : List V} {xss : List (List V)}, Tups H vs xss → ∀ {i : Nat} {xs : List V}, xss[i]? = some xs → ∃ a, vs[i]? = some (.ref a) ∧ H a = some (.tup xs)
  | [], [], _, i, x, h => by simp at h
  | v :: vs, xs :: xss, ⟨⟨a, h1, h2⟩, h3⟩, 0, x, h => by
    have e : xs = x := Option.some.inj h
    exact ⟨a, congrArg some h1, e ▸ h2⟩
  | v :: vs, xs :: xss, ⟨_, h3⟩, i + 1, x, h => by
    obtain ⟨a, h2, h4⟩ := h3.at (i := i) h
    exact ⟨a, h2, h4⟩
section
variable {K : PySem.W.Frag} {σ : L2.St} {H H' : Hp} {ta tb te tc : TE} {D : Ends} {tz : TS}
def EvAU (ta : TA) (σ : L2.St) (H : Hp) (xss : List (List V)) : Prop := ∀ H1, Ex H H1 → ∀ Q : List V → Hp → Prop, (∀ vs H2, Ex H1 H2 → Tups H2 vs xss → Q vs H2) → ta σ H1 Q
theorem eau_nil : EvAU tNil σ H [] := fun H1 _ _ q => q [] H1 (Ex.refl H1) trivial
theorem eau_cons {tr : TA} {xs : List V} {xss : List (List V)} (h : EvU te σ H xs) (hr : EvAU tr σ H xss) : EvAU (tCons te tr) σ H (xs :: xss) := fun H1 e _ q =>
  h H1 e _ fun p H2 _ e2 h2 => hr H2 (e.trans e2) _ fun vs H3 e3 h3 => q (.ref p :: vs) H3 (e2.trans e3) ⟨⟨p, rfl, e3 _ _ h2⟩, h3⟩
/-- a tuple that stands somewhere -/
def EvR (te : TE) (σ : L2.St) (H : Hp) (xs : List V) : Prop := ∀ H1, Ex H H1 → ∀ Q : VK, (∀ p H2, Ex H1 H2 → H2 p = some (.tup xs) → Q (.ref p) H2) → te σ H1 Q
/-- a tuple of tuples, and one of them -/
theorem er_ix {ta : TA} {xss : List (List V)} {xs : List V} {j : Nat} {i : Int} (h : EvAU ta σ H xss) (hl : xss.length ≤ 100000) (hi : Ev tb σ H (.int i)) (e : i = (j : Int)) (hx : xss[j]? = some xs) : EvR (tOp (rIxT K) (tTup ta) tb) σ H xs := fun H1 e1 Q q =>
  h H1 e1 _ fun vs H2 e2 h2 => ⟨sz_of (by rw [h2.len]; exact hl), fun p hp => hi (upd H2 p (.tup vs)) ((e1.trans e2).trans (Ex.new hp)) _ fun H3 e3 => by
    obtain ⟨a, h3, h4⟩ := (h2.mono ((Ex.new (o := .tup vs) hp).trans e3)).at hx
    refine ⟨p, vs, i, .ref a, rfl, rfl, st_of (e3 _ _ upd_same), ?_, q a H3 ((e2.trans (Ex.new hp)).trans e3) h4⟩
    rw [e]
    exact atI_nat h3⟩
/-- the first operand a new tuple -/
theorem ev_opU1 {xs : List V} {y z : V} {r : R2} (ha : EvU ta σ H xs) (hb : ∀ H1, Ex H H1 → Ev tb σ H1 y) (hr : ∀ p H1, H1 p = some (.tup xs) → Ex H H1 → RV r (.ref p) y H1 z) : Ev (tOp r ta tb) σ H z := by
  intro H1 e Q q
  refine ha H1 e _ fun p H2 _ e2 hp => ?_
  refine hb H2 (e.trans e2) H2 (Ex.refl H2) _ fun H3 e3 => ?_
  have e4 := e2.trans e3
  exact hr p H3 (e3 p _ hp) (e.trans e4) H3 (Ex.refl H3) Q fun H4 e5 => q H4 (e4.trans e5)
theorem q_tups {ta : TA} {xss : List (List V)} {i : Nat} (h : EvAU ta σ H xss) (hl : xss.length ≤ 100000) (k : ∀ p vs H1, Ex H H1 → H1 p = some (.tup vs) → Tups H1 vs xss → tz D (σ.set i (some (.ref p))) H1) : tSeq (tAsg (tTup ta) (gName i)) tz D σ H :=
  h H (Ex.refl H) _ fun vs H2 e2 h2 => ⟨sz_of (by rw [h2.len]; exact hl), fun p hp => k p vs _ (e2.trans (Ex.new hp)) upd_same (h2.mono (Ex.new hp))⟩
theorem er_at {xss : List (List V)} {xs vs : List V} {p : Addr} {j : Nat} {i : Int} (hv : Ev ta σ H (.ref p)) (hp : H p = some (.tup vs)) (ht : Tups H vs xss) (hi : Ev tb σ H (.int i)) (e : i = (j : Int)) (hx : xss[j]? = some xs) : EvR (tOp (rIxT K) ta tb) σ H xs := fun H1 e1 Q q =>
  hv H1 e1 _ fun H2 e2 => hi H2 (e1.trans e2) _ fun H3 e3 => by
    have e4 := (e1.trans e2).trans e3
    obtain ⟨a, h3, h4⟩ := (ht.mono e4).at hx
    refine ⟨p, vs, i, .ref a, rfl, rfl, st_of (e4 _ _ hp), ?_, q a H3 (e2.trans e3) h4⟩
    rw [e]
    exact atI_nat h3
theorem q_asgR {xs : List V} {i : Nat} (h : EvR te σ H xs) (k : ∀ p H1, Ex H H1 → H1 p = some (.tup xs) → tz D (σ.set i (some (.ref p))) H1) : tSeq (tAsg te (gName i)) tz D σ H := h H (Ex.refl H) _ fun p H1 e1 h1 => k p H1 e1 h1
theorem s_retR {xs : List V} (h : EvR te σ H xs) (k : ∀ p H1, Ex H H1 → H1 p = some (.tup xs) → D.rt (.ref p) H1) : tRet te D σ H := h H (Ex.refl H) _ k
def SpR (sp : Sp) (vs : List V) (H : Hp) (xs : List V) : Prop := ∀ H1, Ex H H1 → ∀ Q : VK, (∀ p H2, Ex H1 H2 → H2 p = some (.tup xs) → Q (.ref p) H2) → ∀ E : XK, sp vs H1 Q E
theorem er_call {sp : Sp} {dvs vs xs : List V} {E : XK} {ta : TA} (h : EvA ta σ H vs) (hs : SpR sp (vs ++ dvs) H xs) : EvR (tCall sp dvs E ta) σ H xs := fun H1 e Q q =>
  h H1 e _ fun H2 e2 => hs H2 (e.trans e2) Q (fun p H3 e3 h3 => q p H3 (e2.trans e3) h3) E
/-- a <= b <= c -/
theorem ev_chain {f g : Int → Int → Bool} {i j k : Int} (ha : Ev ta σ H (.int i)) (hb : Ev tb σ H (.int j)) (hc : Ev tc σ H (.int k)) : Ev (tChain (rI0 fun i j => .bl (f i j)) (rI0 fun i j => .bl (g i j)) ta tb tc) σ H (.bl (f i j && g j k)) := fun H1 e Q q =>
  ha H1 e _ fun H2 e2 => hb H2 (e.trans e2) _ fun H3 e3 => ⟨i, j, rfl, rfl, f i j, rfl, by
    cases hf : f i j with
    | true =>
      rw [if_pos rfl]
      exact hc H3 ((e.trans e2).trans e3) _ fun H4 e4 => ⟨j, k, rfl, rfl, by
        have z := q H4 ((e2.trans e3).trans e4)
        rw [hf] at z
        exact z⟩
    | false =>
      rw [if_neg (by decide)]
      have z := q H3 (e2.trans e3)
      rw [hf] at z
      exact z⟩
/-- [x, ..] * k -/
theorem el_rep {xs : List V} {k : Int} (ha : EvL ta σ H xs) (hb : Ev tb σ H (.int k)) (hk : 0 ≤ k ∧ k ≤ 100000) (hx : xs.length * k.toNat ≤ 100000) : EvL (tOp rRep ta tb) σ H (List.replicate k.toNat xs).flatten := fun H1 e Q q =>
  ha H1 e _ fun l H2 n2 e2 h2 => hb H2 (e.trans e2) _ fun H3 e3 => ⟨l, k, xs, rfl, rfl, e3 _ _ h2, by omega, by omega, sz_of hx, fun p hp => q p _ (fresh_back (e2.trans e3) hp) ((e2.trans e3).trans (Ex.new hp)) upd_same⟩
/-- [x, ..] + ys -/
theorem el_cat {xs ys : List V} {b : Addr} (ha : EvL ta σ H xs) (hb : Ev tb σ H (.ref b)) (h : H b = some (.lst ys)) (hz : xs.length + ys.length ≤ 100000) : EvL (tOp rCat ta tb) σ H (xs ++ ys) := fun H1 e Q q =>
  ha H1 e _ fun l H2 n2 e2 h2 => hb H2 (e.trans e2) _ fun H3 e3 => ⟨l, b, xs, ys, rfl, rfl, e3 _ _ h2, ((e.trans e2).trans e3) _ _ h, sz_of hz, fun p hp => q p _ (fresh_back (e2.trans e3) hp) ((e2.trans e3).trans (Ex.new hp)) upd_same⟩
/-- x is None -/
theorem ev_isN {x : V} (ha : Ev ta σ H x) : Ev (tOp (fun x y H Q => y = .non ∧ Q (.bl (decide (x = .non))) H) ta (tC .non)) σ H (.bl (decide (x = .non))) := fun H1 e Q q =>
  ha H1 e _ fun H2 e2 => ⟨rfl, q H2 e2⟩
end
/-- what a caller knows of a def -/
def Cal (P : Program) (w : World) (K : PySem.W.Frag) (mg : Str → Option Value) (base : Heap) (k : Nat) (x : Str) (ps : List Str) (sp : Sp) : Prop :=
  ∃ f fd, FnOk P w K mg base CX0 k f fd ps sp ∧ PySem.W.keepIn K (.ref f) = true ∧ Binds K fd ps [] ∧ mg x = some (.ref f)
section
variable {P : Program} {w : World} {K : PySem.W.Frag} {mg : Str → Option Value} {base : Heap}
/-! ### turned -/
def tI (w : Nat) (x y : Int) : List V := [.int (Sa48.turned w x y).1, .int (Sa48.turned w x y).2]
def spTurned : Sp := fun vs H Q _ => ∃ (w : Nat) (x y : Int), vs = [.int w, .int x, .int y] ∧ w < 8 ∧ ∀ p H', Ex H H' → H' p = some (.tup (tI w x y)) → Q (.ref p) H'
theorem tI_at {w : Nat} (hw : w < 8) (x y : Int) : ([[.int x, .int y], [.int (-y), .int x], [.int (-x), .int (-y)], [.int y, .int (-x)], [.int (-x), .int y], [.int x, .int (-y)], [.int y, .int x], [.int (-y), .int (-x)]] : List (List V))[w]? = some (tI w x y) := by
  have h : w = 0 ∨ w = 1 ∨ w = 2 ∨ w = 3 ∨ w = 4 ∨ w = 5 ∨ w = 6 ∨ w = 7 := by omega
  rcases h with rfl | rfl | rfl | rfl | rfl | rfl | rfl | rfl <;> rfl
theorem ok_turned {f : Addr} {fd : FuncData} (F : Fun K "turned" "turned" s_turned f fd) : FnOk P w K mg base CX0 1 f fd ["way", "x", "y"] spTurned := by
  refine F.ok sc_turned (fun vs H Q E h => ?_) (fun cdv A outer s H vs Q E hr h => ?_)
  · obtain ⟨w, x, y, rfl, _⟩ := h
    rfl
  · obtain ⟨w, x, y, rfl, hw, q⟩ := h
    refine ⟨_,
      (pss_cons (ps_set (i := 3) sc_turned.nd rfl (Or.inl rfl) (pe_tup (pa_cons (pe_tup (pa_cons (pv 1) (pa_cons (pv 2) pa_nil))) (pa_cons (pe_tup (pa_cons (pe_un un_neg (pv 2)) (pa_cons (pv 1) pa_nil))) (pa_cons (pe_tup (pa_cons (pe_un un_neg (pv 1)) (pa_cons (pe_un un_neg (pv 2)) pa_nil))) (pa_cons (pe_tup (pa_cons (pv 2) (pa_cons (pe_un un_neg (pv 1)) pa_nil))) (pa_cons (pe_tup (pa_cons (pe_un un_neg (pv 1)) (pa_cons (pv 2) pa_nil))) (pa_cons (pe_tup (pa_cons (pv 1) (pa_cons (pe_un un_neg (pv 2)) pa_nil))) (pa_cons (pe_tup (pa_cons (pv 2) (pa_cons (pv 1) pa_nil))) (pa_cons (pe_tup (pa_cons (pe_un un_neg (pv 2)) (pa_cons (pe_un un_neg (pv 1)) pa_nil))) pa_nil))))))))))
          (pss_one (ps_ret (pe_ix ix_tup (pv 3) (pv 0) (fun _ _ => rfl)))))
      , ?_⟩
    have two : ∀ {a b : V}, ([a, b] : List V).length ≤ 100000 := fun {a b} => by show 2 ≤ 100000; decide
    refine q_tups (eau_cons (eu_tup (ea_cons (ev_var rfl) (ea_cons (ev_var rfl) ea_nil)) two) (eau_cons (eu_tup (ea_cons (ev_un (ev_var rfl) ru_neg) (ea_cons (ev_var rfl) ea_nil)) two) (eau_cons (eu_tup (ea_cons (ev_un (ev_var rfl) ru_neg) (ea_cons (ev_un (ev_var rfl) ru_neg) ea_nil)) two)
      (eau_cons (eu_tup (ea_cons (ev_var rfl) (ea_cons (ev_un (ev_var rfl) ru_neg) ea_nil)) two) (eau_cons (eu_tup (ea_cons (ev_un (ev_var rfl) ru_neg) (ea_cons (ev_var rfl) ea_nil)) two) (eau_cons (eu_tup (ea_cons (ev_var rfl) (ea_cons (ev_un (ev_var rfl) ru_neg) ea_nil)) two)
      (eau_cons (eu_tup (ea_cons (ev_var rfl) (ea_cons (ev_var rfl) ea_nil)) two) (eau_cons (eu_tup (ea_cons (ev_un (ev_var rfl) ru_neg) (ea_cons (ev_un (ev_var rfl) ru_neg) ea_nil)) two) eau_nil)))))))) (by show 8 ≤ 100000; decide) fun p vs H1 e1 hp ht => ?_
    exact s_retR (er_at (ev_var rfl) hp ht (ev_var rfl) rfl (tI_at hw x y)) fun p2 H2 e2 h2 => q p2 H2 (e1.trans e2) h2
/-! ### taken -/
def spTaken : Sp := fun vs H Q _ => ∃ (n w : Nat) (a b : Int) (k : Nat), vs = [.int n, .int w, .int a, .int b, .int k] ∧ 1 ≤ n ∧ n ≤ 64 ∧ w < 8 ∧ ∀ H', Ex H H' → Q (.int (pl n w a b k : Nat)) H'
theorem pl_int {n : Nat} (n1 : 1 ≤ n) (w : Nat) (a b : Int) (k : Nat) : ((pl n w a b k : Nat) : Int) = ((Sa48.turned w ((k : Int) % (n : Int)) ((k : Int) / (n : Int))).2 + b) % (n : Int) * (n : Int) + ((Sa48.turned w ((k : Int) % (n : Int)) ((k : Int) / (n : Int))).1 + a) % (n : Int) := by
  unfold pl Sa48Neutral.place Sa48.Move.takes
  dsimp only
  rw [Int.natCast_add, Int.natCast_mul, Int.natCast_emod, Int.natCast_ediv, Int.toNat_of_nonneg (Int.emod_nonneg _ (by omega)), Int.toNat_of_nonneg (Int.emod_nonneg _ (by omega))]
theorem ok_taken (C_turned : Cal P w K mg base 1 "turned" ["way", "x", "y"] spTurned) {f : Addr} {fd : FuncData} (F : Fun K "taken" "taken" s_taken f fd) : FnOk P w K mg base CX0 2 f fd ["n", "way", "a", "b", "place"] spTaken := by
  obtain ⟨f_turned, fd_turned, G_turned, kp_turned, b_turned, g_turned⟩ := C_turned
  refine F.ok sc_taken (fun vs H Q E h => ?_) (fun cdv A outer s H vs Q E hr h => ?_)
  · obtain ⟨n, w, a, b, k, rfl, _⟩ := h
    rfl
  · obtain ⟨n, w, a, b, k, rfl, n1, n6, hw, q⟩ := h
    refine ⟨_,
      (pss_cons (ps_set (i := 5) sc_taken.nd rfl (Or.inl rfl) (pe_call G_turned (hr.mono (by decide)) (by rfl) g_turned kp_turned b_turned .nil pass0 (pa_cons (pv 1) (pa_cons (pe_op op_mod (pv 4) (pv 0)) (pa_cons (pe_op op_fdiv (pv 4) (pv 0)) pa_nil)))))
          (pss_one (ps_ret (pe_op op_add (pe_op op_mul (pe_op op_mod (pe_op op_add (pe_ix ix_tup (pv 5) pe_int (fun _ _ => rfl)) (pv 3)) (pv 0)) (pv 0)) (pe_op op_mod (pe_op op_add (pe_ix ix_tup (pv 5) pe_int (fun _ _ => rfl)) (pv 2)) (pv 0))))))
      , ?_⟩
    refine q_asgR (er_call (ea_cons (ev_var rfl) (ea_cons (ev_op (ev_var rfl) (ev_var rfl) (rv_I (i := (k : Int)) (j := (n : Int)) (by omega))) (ea_cons (ev_op (ev_var rfl) (ev_var rfl) (rv_I (i := (k : Int)) (j := (n : Int)) ⟨by omega, by omega⟩)) ea_nil)))
      (xs := tI w ((k : Int) % (n : Int)) ((k : Int) / (n : Int))) fun H1 e1 Q q E => ⟨w, (k : Int) % (n : Int), (k : Int) / (n : Int), rfl, hw, fun p H2 e2 h2 => q p H2 e2 h2⟩) fun p H1 e1 hp => ?_
    refine s_ret (ev_op (ev_op (ev_op (ev_op (ev_op (ev_var rfl) ev_c (rv_ixT (v := .int (Sa48.turned w ((k : Int) % (n : Int)) ((k : Int) / (n : Int))).2) (st_of hp) (atI_nat (j := 1) rfl))) (ev_var rfl) rv_I0) (ev_var rfl) (rv_I (j := (n : Int)) (by omega))) (ev_var rfl) (rv_I (j := (n : Int)) (Or.inr ⟨by omega, by omega⟩)))
      (ev_op (ev_op (ev_op (ev_var rfl) ev_c (rv_ixT (v := .int (Sa48.turned w ((k : Int) % (n : Int)) ((k : Int) / (n : Int))).1) (st_of hp) (atI_nat (j := 0) rfl))) (ev_var rfl) rv_I0) (ev_var rfl) (rv_I (j := (n : Int)) (by omega))) rv_I0) fun H2 e2 => ?_
    have z := q H2 (e1.trans e2)
    rw [pl_int n1] at z
    exact z
theorem spTaken_W {H : Hp} {n w : Nat} {a b : Int} {k : Nat} (n1 : 1 ≤ n) (n64 : n ≤ 64) (hw : w < 8) : SpV spTaken ([.int n, .int w, .int a, .int b, .int k] ++ []) H (.int (pl n w a b k : Nat)) :=
  fun _ _ _ q _ => ⟨n, w, a, b, k, rfl, n1, n64, hw, fun H2 e2 => q H2 e2⟩
theorem spTaken_V {H : Hp} {n w : Nat} {a b : Int} {k : Nat} (n1 : 1 ≤ n) (n6 : n ≤ 6) (hw : w < 8) : SpV spTaken ([.int n, .int w, .int a, .int b, .int k] ++ []) H (.int (pl n w a b k : Nat)) := spTaken_W n1 (by omega) hw
end
/-- what is asked of a call -/
def Asked (m : Int) (c : List Int) : Prop := (m < 1 ∨ 64 < m) ∨ ∃ n : Nat, m = (n : Int) ∧ Rq n c
theorem asked_is {m : Int} {c : List Int} (h : Sa48Neutral.square m c = true) : Asked m c := by
  unfold Sa48Neutral.square at h
  rw [Bool.and_eq_true, Bool.and_eq_true] at h
  obtain ⟨_, h2, h3⟩ := h
  by_cases hm : 1 ≤ m ∧ m ≤ 64
  · rw [if_pos hm, Bool.and_eq_true, decide_eq_true_iff, decide_eq_true_iff] at h3
    refine .inr ⟨m.toNat, by omega, ⟨by omega, by omega, ?_, fun z hz => ?_⟩⟩
    · have e : ((m.toNat : Nat) : Int) = m := Int.toNat_of_nonneg (by omega)
      have e2 : ((m.toNat * m.toNat : Nat) : Int) = m * m := by rw [Int.natCast_mul, e]
      omega
    · have z1 := List.all_eq_true.mp h2 z hz
      unfold Sa48Neutral.natural at z1
      rw [Bool.and_eq_true, decide_eq_true_iff] at z1
      exact z1.1
  · exact .inl (by omega)

section
variable {P : Program} {w : World} {K : PySem.W.Frag} {mg : Str → Option Value} {base : Heap}
/-! ### is_symmetry -/
def spIs (K : PySem.W.Frag) : Sp := fun vs H Q _ => ∃ (ad : Addr) (n : Nat) (c : List Int) (w : Nat) (a b : Int), vs = [.int n, .ref ad, .int w, .int a, .int b] ∧ SqL K H ad (c.map V.int) ∧ Rq n c ∧ w < 8 ∧
  ∀ H', Ex H H' → Q (.bl (Sa48Neutral.sym (Pt n c) w a b)) H'
theorem ok_is (C_taken : Cal P w K mg base 2 "taken" ["n", "way", "a", "b", "place"] spTaken) {f : Addr} {fd : FuncData} (F : Fun K "is_symmetry" "is_symmetry" s_is_symmetry f fd) (m_range : mg "range" = none) : FnOk P w K mg base CX0 3 f fd ["n", "p", "way", "a", "b"] (spIs K) := by
  obtain ⟨f_taken, fd_taken, G_taken, kp_taken, b_taken, g_taken⟩ := C_taken
  refine F.ok sc_is_symmetry (fun vs H Q E h => ?_) (fun cdv A outer s H vs Q E hr h => ?_)
  · obtain ⟨ad, n, c, w, a, b, rfl, _⟩ := h
    rfl
  · obtain ⟨ad, n, c, w, a, b, rfl, hS, R, hw, q⟩ := h
    have n1 := R.lo
    have n6 := R.hi
    have nn : n * n ≤ 36 := Nat.mul_le_mul n6 n6
    have nm : (n : Int) * (n : Int) = ((n * n : Nat) : Int) := (Int.natCast_mul n n).symm
    refine ⟨_,
      (pss_cons (ps_for PassesOwn.never rfl (pi_range1 rfl m_range (pa_cons (pe_op op_mul (pv 0) (pv 0)) pa_nil)) (pg_name (i := 5) sc_is_symmetry.nd rfl (Or.inl rfl))
            (pss_one (ps_if (pt_cmpR op_ne (pe_ix ix_list (pv 1) (pv 5) (fun _ _ => rfl)) (pe_ix ix_list (pv 1) (pe_call G_taken (hr.mono (by decide)) (by rfl) g_taken kp_taken b_taken .nil pass0 (pa_cons (pv 0) (pa_cons (pv 2) (pa_cons (pv 3) (pa_cons (pv 4) (pa_cons (pv 5) pa_nil)))))) (fun _ _ => rfl)) (nomark _)) (pss_one (ps_ret pe_bl)) pss_nil)))
          (pss_one (ps_ret pe_bl)))
      , ?_⟩
    refine q_forR1 (n := (n : Int) * (n : Int)) (ea_cons (ev_op (ev_var rfl) (ev_var rfl) (rv_I (i := (n : Int)) (j := (n : Int)) (Or.inr ⟨by omega, by omega⟩))) ea_nil) ⟨by omega, by omega⟩
      (fun i σ' H' => ∃ s5, σ' = [some (.int n), some (.ref ad), some (.int w), some (.int a), some (.int b), s5] ∧ Ex H H' ∧ ∀ k, k < i → gt c k = gt c (pl n w a b k))
      (fun H1 e => ⟨none, rfl, e, fun k hk => absurd hk (Nat.not_lt_zero k)⟩) ?_ ?_
    · rintro i σ' H' hi ⟨s5, rfl, e1, hp⟩
      have hi' : i < n * n := by omega
      have sq := ex_l e1 hS
      refine s_when (b := !decide (V.int (gt c i) = V.int (gt c (pl n w a b i)))) (et_test (ev_op (ev_op (ev_var rfl) (ev_var rfl) (rv_ixL sq (at_int rfl (by rw [R.len]; exact hi'))))
        (ev_op (ev_var rfl) (ev_call (ea_cons (ev_var rfl) (ea_cons (ev_var rfl) (ea_cons (ev_var rfl) (ea_cons (ev_var rfl) (ea_cons (ev_var rfl) ea_nil))))) (spTaken_V n1 n6 hw)) (rv_ixL sq (at_int rfl (by rw [R.len]; exact pl_lt n1 w a b i)))) (rv_ne rfl))) ?_ ?_
      · intro hb H3 e3
        refine s_ret ev_c fun H4 e4 => ?_
        have z := q H4 ((e1.trans e3).trans e4)
        have hf : Sa48Neutral.sym (Pt n c) w a b = false := by
          rw [← Bool.not_eq_true, sym_all R]
          intro y
          rw [y i hi', decide_eq_true rfl] at hb
          cases hb
        rw [hf] at z
        exact z
      · intro hb H3 e3
        refine ⟨_, rfl, e1.trans e3, fun k hk => ?_⟩
        rcases Nat.lt_succ_iff_lt_or_eq.mp hk with h | rfl
        · exact hp k h
        · rw [Bool.not_eq_false', decide_eq_true_iff] at hb
          exact V.int.inj hb
    · rintro σ' H' ⟨s5, rfl, e1, hp⟩
      refine s_ret ev_c fun H4 e4 => ?_
      have z := q H4 (e1.trans e4)
      rw [(sym_all R).mpr fun k hk => hp k (by omega)] at z
      exact z
theorem spIs_V {H : Hp} {ad : Addr} {n : Nat} {c : List Int} {w : Nat} {a b : Int} (hS : SqL K H ad (c.map V.int)) (R : Rq n c) (hw : w < 8) : SpV (spIs K) ([.int n, .ref ad, .int w, .int a, .int b] ++ []) H (.bl (Sa48Neutral.sym (Pt n c) w a b)) :=
  fun _ e _ q _ => ⟨ad, n, c, w, a, b, rfl, ex_l e hS, R, hw, fun H2 e2 => q H2 e2⟩
end

section
variable {P : Program} {w : World} {K : PySem.W.Frag} {mg : Str → Option Value} {base : Heap}
/-! ### is_side -/
def spSide : Sp := fun vs H Q _ => ∃ m : Int, vs = [.int m] ∧ ∀ H', Ex H H' → Q (.bl (decide (1 ≤ m) && decide (m ≤ 64))) H'
theorem ok_side {f : Addr} {fd : FuncData} (F : Fun K "is_side" "is_side" s_is_side f fd) : FnOk P w K mg base CX0 1 f fd ["n"] spSide := by
  refine F.ok sc_is_side (fun vs H Q E h => ?_) (fun cdv A outer s H vs Q E hr h => ?_)
  · obtain ⟨m, rfl, _⟩ := h
    rfl
  · obtain ⟨m, rfl, q⟩ := h
    refine ⟨_,
      (pss_one (ps_ret (pe_chain op_le op_le pe_int (pv 0) pe_int)))
      , ?_⟩
    exact s_ret (ev_chain ev_c (ev_var rfl) ev_c) fun H1 e1 => q H1 e1
theorem spSide_V {H : Hp} (m : Int) : SpV spSide ([.int m] ++ []) H (.bl (decide (1 ≤ m) && decide (m ≤ 64))) := fun _ _ _ q _ => ⟨m, rfl, fun H2 e2 => q H2 e2⟩
theorem not_side {m : Int} (h : (!(decide (1 ≤ m) && decide (m ≤ 64))) = true) : m < 1 ∨ 64 < m := by
  rw [Bool.not_eq_true', Bool.and_eq_false_iff, decide_eq_false_iff_not, decide_eq_false_iff_not] at h
  omega
theorem is_side {m : Int} (h : (!(decide (1 ≤ m) && decide (m ≤ 64))) = false) : 1 ≤ m ∧ m ≤ 64 := by
  rw [Bool.not_eq_false', Bool.and_eq_true, decide_eq_true_iff, decide_eq_true_iff] at h
  exact h
end

section
variable {P : Program} {w : World} {K : PySem.W.Frag} {mg : Str → Option Value} {base : Heap}
/-! ### least_across -/
def isShift (n : Nat) (c : List Int) (u v : Nat) : Bool := Sa48Neutral.sym (Pt n c) 0 (u : Int) (v : Int)
structure LA (n : Nat) (c : List Int) (e : Nat) : Prop where
  lo : 1 ≤ e
  hi : e ≤ n
  is : e < n → isShift n c e 0 = true
  no : ∀ k, 0 < k → k < e → isShift n c k 0 = false
theorem spIs0_V {H : Hp} {ad : Addr} {n : Nat} {c : List Int} {a b : Nat} (hS : SqL K H ad (c.map V.int)) (R : Rq n c) : SpV (spIs K) ([.int n, .ref ad, .int ((0 : Nat) : Int), .int (a : Int), .int (b : Int)] ++ []) H (.bl (isShift n c a b)) :=
  spIs_V hS R (by decide)
def spLA (K : PySem.W.Frag) : Sp := fun vs H Q _ => ∃ (a : Addr) (n : Nat) (c : List Int), vs = [.int n, .ref a] ∧ SqL K H a (c.map V.int) ∧ Rq n c ∧
  ∀ (e : Nat) H', Ex H H' → LA n c e → Q (.int e) H'
theorem ok_la (C_is_symmetry : Cal P w K mg base 3 "is_symmetry" ["n", "p", "way", "a", "b"] (spIs K)) {f : Addr} {fd : FuncData} (F : Fun K "least_across" "least_across" s_least_across f fd) (m_range : mg "range" = none) : FnOk P w K mg base CX0 4 f fd ["n", "p"] (spLA K) := by
  obtain ⟨f_is_symmetry, fd_is_symmetry, G_is_symmetry, kp_is_symmetry, b_is_symmetry, g_is_symmetry⟩ := C_is_symmetry
  refine F.ok sc_least_across (fun vs H Q E h => ?_) (fun cdv A outer s H vs Q E hr h => ?_)
  · obtain ⟨a, n, c, rfl, _⟩ := h
    rfl
  · obtain ⟨a, n, c, rfl, hS, R, q⟩ := h
    have n1 := R.lo
    have n6 := R.hi
    refine ⟨_,
      (pss_cons (ps_for PassesOwn.never rfl (pi_range2 rfl m_range (pa_cons pe_int (pa_cons (pv 0) pa_nil))) (pg_name (i := 2) sc_least_across.nd rfl (Or.inl rfl))
            (pss_one (ps_if (pt_val (pe_call G_is_symmetry (hr.mono (by decide)) (by rfl) g_is_symmetry kp_is_symmetry b_is_symmetry .nil pass0 (pa_cons (pv 0) (pa_cons (pv 1) (pa_cons pe_int (pa_cons (pv 2) (pa_cons pe_int pa_nil))))))) (pss_one (ps_ret (pv 2))) pss_nil)))
          (pss_one (ps_ret (pv 0))))
      , ?_⟩
    refine q_forR2 (lo := 1) (n := (n : Int)) (ea_cons ev_c (ea_cons (ev_var rfl) ea_nil)) ⟨by omega, by omega, by omega, by omega⟩
      (fun i σ' H' => ∃ s2, σ' = [some (.int n), some (.ref a), s2] ∧ Ex H H' ∧ ∀ k, 0 < k → k < i + 1 → isShift n c k 0 = false)
      (fun H1 e => ⟨none, rfl, e, fun k h1 h2 => absurd h1 (by omega)⟩) ?_ ?_
    · rintro i σ' H' hi ⟨s2, rfl, e1, hp⟩
      have ei : (1 : Int) + (i : Int) = ((i + 1 : Nat) : Int) := by omega
      rw [ei]
      refine s_when (b := isShift n c (i + 1) 0) (et_B (ev_call (ea_cons (ev_var rfl) (ea_cons (ev_var rfl) (ea_cons (ev_c (v := .int ((0 : Nat) : Int))) (ea_cons (ev_var rfl) (ea_cons (ev_c (v := .int ((0 : Nat) : Int))) ea_nil))))) (spIs0_V (ex_l e1 hS) R))) ?_ ?_
      · intro hb H3 e3
        exact s_ret (ev_var rfl) fun H4 e4 => q (i + 1) H4 ((e1.trans e3).trans e4) ⟨by omega, by omega, fun _ => hb, hp⟩
      · intro hb H3 e3
        refine ⟨_, rfl, e1.trans e3, fun k h1 h2 => ?_⟩
        rcases Nat.lt_succ_iff_lt_or_eq.mp h2 with h | rfl
        · exact hp k h1 h
        · exact hb
    · rintro σ' H' ⟨s2, rfl, e1, hp⟩
      exact s_ret (ev_var rfl) fun H4 e4 => q n H4 (e1.trans e4) ⟨by omega, Nat.le_refl _, fun h => absurd h (Nat.lt_irrefl _), fun k h1 h2 => hp k h1 (by omega)⟩
/-! ### least_down -/
structure LD (n : Nat) (c : List Int) (e f g : Nat) : Prop where
  lo : 1 ≤ g
  hi : g ≤ n
  lt : f < e
  is : g < n → isShift n c f g = true
  at0 : g = n → f = 0
  no : ∀ k, 0 < k → k < g → ∀ u, u < e → isShift n c u k = false
def spLD (K : PySem.W.Frag) : Sp := fun vs H Q _ => ∃ (a : Addr) (n : Nat) (c : List Int) (e : Nat), vs = [.int n, .ref a, .int e] ∧ SqL K H a (c.map V.int) ∧ Rq n c ∧ 1 ≤ e ∧ e ≤ n ∧
  ∀ (f g : Nat) (p : Addr) H', H p = none → Ex H H' → H' p = some (.tup [.int f, .int g]) → LD n c e f g → Q (.ref p) H'
theorem ok_ld (C_is_symmetry : Cal P w K mg base 3 "is_symmetry" ["n", "p", "way", "a", "b"] (spIs K)) {f : Addr} {fd : FuncData} (F : Fun K "least_down" "least_down" s_least_down f fd) (m_range : mg "range" = none) : FnOk P w K mg base CX0 4 f fd ["n", "p", "e"] (spLD K) := by
  obtain ⟨f_is_symmetry, fd_is_symmetry, G_is_symmetry, kp_is_symmetry, b_is_symmetry, g_is_symmetry⟩ := C_is_symmetry
  refine F.ok sc_least_down (fun vs H Q E h => ?_) (fun cdv A outer s H vs Q E hr h => ?_)
  · obtain ⟨a, n, c, e, rfl, _⟩ := h
    rfl
  · obtain ⟨a, n, c, e, rfl, hS, R, l1, l2, q⟩ := h
    have n1 := R.lo
    have n6 := R.hi
    refine ⟨_,
      (pss_cons (ps_for PassesOwn.never rfl (pi_range2 rfl m_range (pa_cons pe_int (pa_cons (pv 0) pa_nil))) (pg_name (i := 3) sc_least_down.nd rfl (Or.inl rfl))
            (pss_one (ps_for PassesOwn.never rfl (pi_range1 rfl m_range (pa_cons (pv 2) pa_nil)) (pg_name (i := 4) sc_least_down.nd rfl (Or.inl rfl))
            (pss_one (ps_if (pt_val (pe_call G_is_symmetry (hr.mono (by decide)) (by rfl) g_is_symmetry kp_is_symmetry b_is_symmetry .nil pass0 (pa_cons (pv 0) (pa_cons (pv 1) (pa_cons pe_int (pa_cons (pv 4) (pa_cons (pv 3) pa_nil))))))) (pss_one (ps_ret (pe_tup (pa_cons (pv 4) (pa_cons (pv 3) pa_nil))))) pss_nil)))))
          (pss_one (ps_ret (pe_tup (pa_cons pe_int (pa_cons (pv 0) pa_nil))))))
      , ?_⟩
    refine q_forR2 (lo := 1) (n := (n : Int)) (ea_cons ev_c (ea_cons (ev_var rfl) ea_nil)) ⟨by omega, by omega, by omega, by omega⟩
      (fun i σ' H' => ∃ s3 s4, σ' = [some (.int n), some (.ref a), some (.int e), s3, s4] ∧ Ex H H' ∧ ∀ k, 0 < k → k < i + 1 → ∀ u, u < e → isShift n c u k = false)
      (fun H1 e => ⟨none, none, rfl, e, fun k h1 h2 => absurd h1 (by omega)⟩) ?_ ?_
    · rintro i σ' H' hi ⟨s3, s4, rfl, e1, hp⟩
      have ei : (1 : Int) + (i : Int) = ((i + 1 : Nat) : Int) := by omega
      rw [ei]
      refine s_forR1 (n := (e : Int)) (ea_cons (ev_var rfl) ea_nil) ⟨by omega, by omega⟩
        (fun j σ2 H2 => ∃ s4, σ2 = [some (.int n), some (.ref a), some (.int e), some (.int ((i + 1 : Nat) : Int)), s4] ∧ Ex H H2 ∧ ∀ u, u < j → isShift n c u (i + 1) = false)
        (fun H1 e => ⟨s4, rfl, e1.trans e, fun x hx => absurd hx (Nat.not_lt_zero x)⟩) ?_ ?_
      · rintro j σ2 H2 hj ⟨s4, rfl, e2, hq⟩
        refine s_when (b := isShift n c j (i + 1)) (et_B (ev_call (ea_cons (ev_var rfl) (ea_cons (ev_var rfl) (ea_cons (ev_c (v := .int ((0 : Nat) : Int))) (ea_cons (ev_var rfl) (ea_cons (ev_var rfl) ea_nil))))) (spIs0_V (ex_l e2 hS) R))) ?_ ?_
        · intro hb H3 e3
          exact s_retU (eu_tup (ea_cons (ev_var rfl) (ea_cons (ev_var rfl) ea_nil)) (by show 2 ≤ 100000; decide)) fun p H4 hp4 e4 h4 =>
            q j (i + 1) p H4 (fresh_back (e2.trans e3) hp4) ((e2.trans e3).trans e4) h4 ⟨by omega, by omega, by omega, fun _ => hb, fun _ => by omega, hp⟩
        · intro hb H3 e3
          refine ⟨_, rfl, e2.trans e3, fun u hu => ?_⟩
          rcases Nat.lt_succ_iff_lt_or_eq.mp hu with h | rfl
          · exact hq u h
          · exact hb
      · rintro σ2 H2 ⟨s4, rfl, e2, hq⟩
        refine ⟨_, _, rfl, e2, fun k h1 h2 => ?_⟩
        rcases Nat.lt_succ_iff_lt_or_eq.mp h2 with h | rfl
        · exact hp k h1 h
        · exact fun u hu => hq u (by omega)
    · rintro σ' H' ⟨s3, s4, rfl, e1, hp⟩
      exact s_retU (eu_tup (ea_cons (ev_c (v := .int ((0 : Nat) : Int))) (ea_cons (ev_var rfl) ea_nil)) (by show 2 ≤ 100000; decide)) fun p H4 hp4 e4 h4 =>
        q 0 n p H4 (fresh_back e1 hp4) (e1.trans e4) h4 ⟨by omega, Nat.le_refl _, by omega, fun h => absurd h (Nat.lt_irrefl _), fun _ => rfl, fun k h1 h2 => hp k h1 (by omega)⟩
theorem isShift_S {n : Nat} {c : List Int} {u v : Nat} (R : Rq n c) : isShift n c u v = true ↔ CM.S (Pt n c) (u : Int) (v : Int) := CM.sym0 (p := Pt n c) R.lo
theorem not_S {n : Nat} {c : List Int} {u v : Nat} (R : Rq n c) (h : isShift n c u v = false) : ¬ CM.S (Pt n c) (u : Int) (v : Int) := fun z => by
  rw [(isShift_S R).mpr z] at h
  cases h
theorem ea_of {n : Nat} {c : List Int} {e : Nat} (R : Rq n c) (h : LA n c e) : CM.Ea (Pt n c) e := by
  have h1 := h.lo
  have h2 := h.hi
  refine ⟨h.lo, ?_, fun k a b => not_S (v := 0) R (h.no k a b)⟩
  by_cases g : e < n
  · exact (isShift_S (v := 0) R).mp (h.is g)
  · obtain rfl : e = n := by omega
    exact CM.S.n0 _
theorem ga_of {n : Nat} {c : List Int} {e f g : Nat} (R : Rq n c) (ea : CM.Ea (Pt n c) e) (h : LD n c e f g) : CM.Ga (Pt n c) e f g := by
  have h1 := h.lo
  have h2 := h.hi
  have h3 := ea.pos
  refine ⟨h.lo, h.lt, ?_, fun k a b u z => ?_⟩
  · by_cases l : g < n
    · exact (isShift_S R).mp (h.is l)
    · obtain rfl : g = n := by omega
      rw [h.at0 rfl]
      exact CM.S.n1 _
  · have hz : CM.S (Pt n c) ((u % (e : Int)).toNat : Int) (k : Int) := (z.add ((ea.is.mul (u / (e : Int))).neg)).of_eq (by
      have p1 := Int.mul_ediv_add_emod u (e : Int)
      have p2 : 0 ≤ u % (e : Int) := Int.emod_nonneg _ (by omega)
      rw [Int.mul_comm] at p1
      omega) (by simp)
    have p3 : u % (e : Int) < (e : Int) := Int.emod_lt_of_pos _ (by omega)
    exact not_S R (h.no k a b _ (by omega)) hz
/-! ### cell -/
def spCell (K : PySem.W.Frag) : Sp := fun vs H Q _ => ∃ (a : Addr) (m : Int) (c : List Int), vs = [.int m, .ref a] ∧ SqL K H a (c.map V.int) ∧ Asked m c ∧
  ∀ p H', H' p = some (.lst ((PySa48.cell m c).map V.int)) → Q (.ref p) H'
theorem ok_cell (C_is_side : Cal P w K mg base 1 "is_side" ["n"] spSide) (C_least_across : Cal P w K mg base 4 "least_across" ["n", "p"] (spLA K)) (C_least_down : Cal P w K mg base 4 "least_down" ["n", "p", "e"] (spLD K))
    {f : Addr} {fd : FuncData} (F : Fun K "cell" "cell" s_cell f fd) : FnOk P w K mg base CX0 5 f fd ["n", "p"] (spCell K) := by
  obtain ⟨f_is_side, fd_is_side, G_is_side, kp_is_side, b_is_side, g_is_side⟩ := C_is_side
  obtain ⟨f_least_across, fd_least_across, G_least_across, kp_least_across, b_least_across, g_least_across⟩ := C_least_across
  obtain ⟨f_least_down, fd_least_down, G_least_down, kp_least_down, b_least_down, g_least_down⟩ := C_least_down
  refine F.ok sc_cell (fun vs H Q E h => ?_) (fun cdv A outer s H vs Q E hr h => ?_)
  · obtain ⟨a, m, c, rfl, _⟩ := h
    rfl
  · obtain ⟨a, m, c, rfl, hS, hm, q⟩ := h
    refine ⟨_,
      (pss_cons (ps_if (pt_not (pt_val (pe_call G_is_side (hr.mono (by decide)) (by rfl) g_is_side kp_is_side b_is_side .nil pass0 (pa_cons (pv 0) pa_nil)))) (pss_one (ps_ret (pe_lst (pa_cons (pe_un un_neg pe_int) pa_nil)))) pss_nil)
          (pss_cons (ps_set (i := 2) sc_cell.nd rfl (Or.inl rfl) (pe_call G_least_across (hr.mono (by decide)) (by rfl) g_least_across kp_least_across b_least_across .nil pass0 (pa_cons (pv 0) (pa_cons (pv 1) pa_nil))))
          (pss_cons (ps_set (i := 3) sc_cell.nd rfl (Or.inl rfl) (pe_call G_least_down (hr.mono (by decide)) (by rfl) g_least_down kp_least_down b_least_down .nil pass0 (pa_cons (pv 0) (pa_cons (pv 1) (pa_cons (pv 2) pa_nil)))))
          (pss_cons (ps_set (i := 4) sc_cell.nd rfl (Or.inl rfl) (pe_ix ix_tup (pv 3) pe_int (fun _ _ => rfl)))
          (pss_cons (ps_set (i := 5) sc_cell.nd rfl (Or.inl rfl) (pe_ix ix_tup (pv 3) pe_int (fun _ _ => rfl)))
          (pss_one (ps_ret (pe_lst (pa_cons pe_int (pa_cons (pv 2) (pa_cons (pv 4) (pa_cons (pv 5) (pa_cons (pe_op op_mul (pe_op op_fdiv (pv 0) (pv 2)) (pe_op op_fdiv (pv 0) (pv 5))) pa_nil)))))))))))))
      , ?_⟩
    refine q_when (b := !(decide (1 ≤ m) && decide (m ≤ 64))) (et_not (et_B (ev_call (ea_cons (ev_var rfl) ea_nil) (spSide_V m)))) ?_ ?_
    · intro hb H1 e1
      refine s_retL (el_lst (ea_cons (ev_un ev_c ru_neg) ea_nil) (by show 1 ≤ 100000; decide)) fun p H2 _ _ h2 => q p H2 ?_
      rw [CM.cell_bad (not_side hb)]
      exact h2
    · intro hb H1 e1
      have hb' := is_side hb
      obtain ⟨n, rfl, R⟩ := hm.resolve_left (by omega)
      have n1 := R.lo
      have n6 := R.hi
      refine ⟨_, rfl, _, rfl, a, n, c, rfl, ex_l e1 hS, R, fun e H2 e2 hLA => ?_⟩
      have ea := ea_of R hLA
      have l1 := hLA.lo
      have l2 := hLA.hi
      refine ⟨_, rfl, _, rfl, _, rfl, a, n, c, e, rfl, ex_l (e1.trans e2) hS, R, hLA.lo, hLA.hi, fun f g t H3 _ e3 ht hLD => ?_⟩
      have ga := ga_of R ea hLD
      have l3 := hLD.lo
      have l4 := hLD.hi
      refine q_asg (ev_op (ev_var rfl) ev_c (rv_ixT (v := .int f) (st_of ht) (atI_nat (j := 0) rfl))) fun H4 e4 => ?_
      refine q_asg (ev_op (ev_var rfl) ev_c (rv_ixT (v := .int g) (st_of (e4 _ _ ht)) (atI_nat (j := 1) rfl))) fun H5 e5 => ?_
      have d1 : (n : Int) / (e : Int) = ((n / e : Nat) : Int) := (Int.natCast_ediv n e).symm
      have d2 : (n : Int) / (g : Int) = ((n / g : Nat) : Int) := (Int.natCast_ediv n g).symm
      have d3 : (n : Int) / (e : Int) ≤ (n : Int) := by
        rw [d1]
        exact Int.ofNat_le.mpr (Nat.div_le_self n e)
      have d4 : 0 ≤ (n : Int) / (e : Int) := Int.ediv_nonneg (by omega) (by omega)
      refine s_retL (el_lst (ea_cons ev_c (ea_cons (ev_var rfl) (ea_cons (ev_var rfl) (ea_cons (ev_var rfl) (ea_cons (ev_op (ev_op (ev_var rfl) (ev_var rfl) (rv_I ⟨by omega, by omega⟩)) (ev_op (ev_var rfl) (ev_var rfl) (rv_I ⟨by omega, by omega⟩))
        (rv_I (Or.inl ⟨by omega, by omega⟩))) ea_nil))))) (by show 5 ≤ 100000; decide)) fun p H6 _ _ h6 => q p H6 ?_
      rw [CM.cell_spec ⟨n1, n6⟩ ea ga, h6, d1, d2]
      rfl
end
/-! ### the end -/
theorem all_mk {P : Program} {w : World} {K : PySem.W.Frag} {h : Heap} {mg : Str → Option Value} {fa f_turned f_taken f_is_symmetry f_least_down f_least_across f_is_side f_cell : Addr} (X : K.In h) (G : h.Ns mainGlobals mg) (hfa : mg "cell" = some (.ref fa))
    {od_turned an_turned od_taken an_taken od_is_symmetry an_is_symmetry od_least_down an_least_down od_least_across an_least_across od_is_side an_is_side od_cell an_cell : Option Addr} {sl_turned sl_taken sl_is_symmetry sl_least_down sl_least_across sl_is_side sl_cell : Array (Option Value)} {oc_turned kV_turned dc_turned pm_turned cd_turned ct_turned oc_taken kV_taken dc_taken pm_taken cd_taken ct_taken oc_is_symmetry kV_is_symmetry dc_is_symmetry pm_is_symmetry cd_is_symmetry ct_is_symmetry oc_least_down kV_least_down dc_least_down pm_least_down cd_least_down ct_least_down oc_least_across kV_least_across dc_least_across pm_least_across cd_least_across ct_least_across oc_is_side kV_is_side dc_is_side pm_is_side cd_is_side ct_is_side oc_cell kV_cell dc_cell pm_cell cd_cell ct_cell : Value}
    (a_turned : PySem.W.nsIn K mainGlobals "turned" = some (some (.ref f_turned))) (l_turned : K.lookup f_turned = some ⟨oc_turned, od_turned, .func (PySem.W.fnOf "turned" "turned" (defArgs s_turned) (defBody s_turned) (defScope s_turned) .none kV_turned dc_turned pm_turned an_turned cd_turned ct_turned), sl_turned⟩) (c_turned : PySem.W.codeIn K cd_turned "turned" = true) (k_turned : PySem.W.keepIn K (.ref f_turned) = true)
    (a_taken : PySem.W.nsIn K mainGlobals "taken" = some (some (.ref f_taken))) (l_taken : K.lookup f_taken = some ⟨oc_taken, od_taken, .func (PySem.W.fnOf "taken" "taken" (defArgs s_taken) (defBody s_taken) (defScope s_taken) .none kV_taken dc_taken pm_taken an_taken cd_taken ct_taken), sl_taken⟩) (c_taken : PySem.W.codeIn K cd_taken "taken" = true) (k_taken : PySem.W.keepIn K (.ref f_taken) = true)
    (a_is_symmetry : PySem.W.nsIn K mainGlobals "is_symmetry" = some (some (.ref f_is_symmetry))) (l_is_symmetry : K.lookup f_is_symmetry = some ⟨oc_is_symmetry, od_is_symmetry, .func (PySem.W.fnOf "is_symmetry" "is_symmetry" (defArgs s_is_symmetry) (defBody s_is_symmetry) (defScope s_is_symmetry) .none kV_is_symmetry dc_is_symmetry pm_is_symmetry an_is_symmetry cd_is_symmetry ct_is_symmetry), sl_is_symmetry⟩) (c_is_symmetry : PySem.W.codeIn K cd_is_symmetry "is_symmetry" = true) (k_is_symmetry : PySem.W.keepIn K (.ref f_is_symmetry) = true)
    (a_least_down : PySem.W.nsIn K mainGlobals "least_down" = some (some (.ref f_least_down))) (l_least_down : K.lookup f_least_down = some ⟨oc_least_down, od_least_down, .func (PySem.W.fnOf "least_down" "least_down" (defArgs s_least_down) (defBody s_least_down) (defScope s_least_down) .none kV_least_down dc_least_down pm_least_down an_least_down cd_least_down ct_least_down), sl_least_down⟩) (c_least_down : PySem.W.codeIn K cd_least_down "least_down" = true) (k_least_down : PySem.W.keepIn K (.ref f_least_down) = true)
    (a_least_across : PySem.W.nsIn K mainGlobals "least_across" = some (some (.ref f_least_across))) (l_least_across : K.lookup f_least_across = some ⟨oc_least_across, od_least_across, .func (PySem.W.fnOf "least_across" "least_across" (defArgs s_least_across) (defBody s_least_across) (defScope s_least_across) .none kV_least_across dc_least_across pm_least_across an_least_across cd_least_across ct_least_across), sl_least_across⟩) (c_least_across : PySem.W.codeIn K cd_least_across "least_across" = true) (k_least_across : PySem.W.keepIn K (.ref f_least_across) = true)
    (a_is_side : PySem.W.nsIn K mainGlobals "is_side" = some (some (.ref f_is_side))) (l_is_side : K.lookup f_is_side = some ⟨oc_is_side, od_is_side, .func (PySem.W.fnOf "is_side" "is_side" (defArgs s_is_side) (defBody s_is_side) (defScope s_is_side) .none kV_is_side dc_is_side pm_is_side an_is_side cd_is_side ct_is_side), sl_is_side⟩) (c_is_side : PySem.W.codeIn K cd_is_side "is_side" = true) (k_is_side : PySem.W.keepIn K (.ref f_is_side) = true)
    (a_cell : PySem.W.nsIn K mainGlobals "cell" = some (some (.ref f_cell))) (l_cell : K.lookup f_cell = some ⟨oc_cell, od_cell, .func (PySem.W.fnOf "cell" "cell" (defArgs s_cell) (defBody s_cell) (defScope s_cell) .none kV_cell dc_cell pm_cell an_cell cd_cell ct_cell), sl_cell⟩) (c_cell : PySem.W.codeIn K cd_cell "cell" = true) (k_cell : PySem.W.keepIn K (.ref f_cell) = true)
    (z_range : PySem.W.nsIn K mainGlobals "range" = some none)
    : ∃ fd : FuncData, (∀ (s : Shared) (us : List Value), us.length = (["n", "p"] : List Str).length → BindsTo s fd ⟨us, []⟩ ((["n", "p"] : List Str).zip us)) ∧ ∀ base : Heap, K.In base → base.Ns mainGlobals mg → FnOk P w K mg base CX0 5 fa fd ["n", "p"] (spCell K) := by
  have e := hfa.symm.trans (PySem.W.mg_of X G a_cell)
  cases e
  have F_turned := fun_mk (st := s_turned) l_turned c_turned k_turned
  have b_turned := F_turned.binds (ps := ["way", "x", "y"]) fun _ _ _ _ _ _ us hl => match us, hl with | [_, _, _], _ => rfl
  have g_turned := PySem.W.mg_of X G a_turned
  have F_taken := fun_mk (st := s_taken) l_taken c_taken k_taken
  have b_taken := F_taken.binds (ps := ["n", "way", "a", "b", "place"]) fun _ _ _ _ _ _ us hl => match us, hl with | [_, _, _, _, _], _ => rfl
  have g_taken := PySem.W.mg_of X G a_taken
  have F_is_symmetry := fun_mk (st := s_is_symmetry) l_is_symmetry c_is_symmetry k_is_symmetry
  have b_is_symmetry := F_is_symmetry.binds (ps := ["n", "p", "way", "a", "b"]) fun _ _ _ _ _ _ us hl => match us, hl with | [_, _, _, _, _], _ => rfl
  have g_is_symmetry := PySem.W.mg_of X G a_is_symmetry
  have F_least_down := fun_mk (st := s_least_down) l_least_down c_least_down k_least_down
  have b_least_down := F_least_down.binds (ps := ["n", "p", "e"]) fun _ _ _ _ _ _ us hl => match us, hl with | [_, _, _], _ => rfl
  have g_least_down := PySem.W.mg_of X G a_least_down
  have F_least_across := fun_mk (st := s_least_across) l_least_across c_least_across k_least_across
  have b_least_across := F_least_across.binds (ps := ["n", "p"]) fun _ _ _ _ _ _ us hl => match us, hl with | [_, _], _ => rfl
  have g_least_across := PySem.W.mg_of X G a_least_across
  have F_is_side := fun_mk (st := s_is_side) l_is_side c_is_side k_is_side
  have b_is_side := F_is_side.binds (ps := ["n"]) fun _ _ _ _ _ _ us hl => match us, hl with | [_], _ => rfl
  have g_is_side := PySem.W.mg_of X G a_is_side
  have F_cell := fun_mk (st := s_cell) l_cell c_cell k_cell
  have m_range := PySem.W.mg_none_of X G z_range
  refine ⟨PySem.W.fnOf "cell" "cell" (defArgs s_cell) (defBody s_cell) (defScope s_cell) .none kV_cell dc_cell pm_cell an_cell cd_cell ct_cell, fun s us hu => match us, hu with | [_, _], _ => .of_eq rfl, fun base _ _ => ?_⟩
  have C_turned : Cal P w K mg base 1 "turned" ["way", "x", "y"] spTurned := ⟨_, _, ok_turned F_turned, F_turned.kp, b_turned, g_turned⟩
  have C_taken : Cal P w K mg base 2 "taken" ["n", "way", "a", "b", "place"] spTaken := ⟨_, _, ok_taken C_turned F_taken, F_taken.kp, b_taken, g_taken⟩
  have C_is_symmetry : Cal P w K mg base 3 "is_symmetry" ["n", "p", "way", "a", "b"] (spIs K) := ⟨_, _, ok_is C_taken F_is_symmetry m_range, F_is_symmetry.kp, b_is_symmetry, g_is_symmetry⟩
  have C_least_across : Cal P w K mg base 4 "least_across" ["n", "p"] (spLA K) := ⟨_, _, ok_la C_is_symmetry F_least_across m_range, F_least_across.kp, b_least_across, g_least_across⟩
  have C_least_down : Cal P w K mg base 4 "least_down" ["n", "p", "e"] (spLD K) := ⟨_, _, ok_ld C_is_symmetry F_least_down m_range, F_least_down.kp, b_least_down, g_least_down⟩
  have C_is_side : Cal P w K mg base 1 "is_side" ["n"] spSide := ⟨_, _, ok_side F_is_side, F_is_side.kp, b_is_side, g_is_side⟩
  exact ok_cell C_is_side C_least_across C_least_down F_cell
end CH
open PySem PySem.W PyProof.Rows
set_option maxRecDepth 100000 in
set_option maxHeartbeats 8000000 in
theorem PySem.Challenge.cw_planerepeats_s01_cell_holds : PySem.Challenge.rw_planerepeats_s01_cell.Holds := by
  w_on; k_headS; (case hw => exact ⟨[.int 0, .list []], by decide +kernel, by decide +kernel⟩)
  k_fillS
  refine L2.walk_specK (r := PySem.Challenge.rw_planerepeats_s01_cell) (k := 5) (CX := L2.CX0) (ps := ["n", "p"]) (sp := CH.spCell) (by decide +kernel) rfl rfl ⟨rfl, by decide, by decide⟩ (fun w h Y => PySem.W.kIn_of Y) ?F ?S (fun _ _ _ _ z => z)
  case F =>
    intro w mg fa h Y KX G hmg
    refine' CH.all_mk KX G hmg ?a_turned ?l_turned ?c_turned ?k_turned ?a_taken ?l_taken ?c_taken ?k_taken ?a_is_symmetry ?l_is_symmetry ?c_is_symmetry ?k_is_symmetry ?a_least_down ?l_least_down ?c_least_down ?k_least_down ?a_least_across ?l_least_across ?c_least_across ?k_least_across ?a_is_side ?l_is_side ?c_is_side ?k_is_side ?a_cell ?l_cell ?c_cell ?k_cell ?z_range
    (case a_turned => k_is); (case l_turned => k_is); (case c_turned => k_is); (case k_turned => k_is); (case a_taken => k_is); (case l_taken => k_is); (case c_taken => k_is); (case k_taken => k_is); (case a_is_symmetry => k_is); (case l_is_symmetry => k_is); (case c_is_symmetry => k_is); (case k_is_symmetry => k_is); (case a_least_down => k_is); (case l_least_down => k_is); (case c_least_down => k_is); (case k_least_down => k_is); (case a_least_across => k_is); (case l_least_across => k_is); (case c_least_across => k_is); (case k_least_across => k_is); (case a_is_side => k_is); (case l_is_side => k_is); (case c_is_side => k_is); (case k_is_side => k_is); (case a_cell => k_is); (case l_cell => k_is); (case c_cell => k_is); (case k_cell => k_is); (case z_range => k_is)
  case S =>
    intro K H xs a hO hwi hask hx
    cases hx with
    | cons h1 h2 =>
      cases h2 with
      | cons h3 h4 =>
        cases h4
        cases h1
        cases h3 with
        | lst hs ha =>
          have e := L2.ints_dw a.2.1 _ ha
          subst e
          exact ⟨_, a.1, a.2.1, rfl, hs, CH.asked_is hask, fun p H' hp => .lst (L2.SqL.of hp) (L2.dw_ints _)⟩
#print axioms PySem.Challenge.cw_planerepeats_s01_cell_holds
