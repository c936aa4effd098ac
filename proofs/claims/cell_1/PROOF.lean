import PyProof.Rows.All
import Wide.All
import OpenK.AllK
import Wide.FinOn
import Open.SpecLaws
import KE.OsGo
import HandS.ForSpec
import HandS.Evl
import PySem.Challenge.RW_planerepeats_s01_cell
set_option Elab.async false
set_option maxRecDepth 100000
set_option maxHeartbeats 4000000
set_option Elab.async false
namespace CM
open Sa48 Sa48Neutral

/-! ### the place's colour: what is the same modulo n is the same -/
theorem at_mod {p : Pat} {x y x' y' : Int} (hx : x % (p.n : Int) = x' % (p.n : Int)) (hy : y % (p.n : Int) = y' % (p.n : Int)) : p.at_ x y = p.at_ x' y' := by
  unfold Pat.at_
  rw [hx, hy]

theorem mem_rg {n : Nat} {x : Int} : x ∈ rg n ↔ 0 ≤ x ∧ x < (n : Int) := by
  unfold rg
  rw [List.mem_map]
  constructor
  · rintro ⟨i, hi, rfl⟩
    have := List.mem_range.mp hi
    omega
  · rintro ⟨h0, h1⟩
    exact ⟨x.toNat, List.mem_range.mpr (by omega), by omega⟩

theorem emod_add_congr {a b c n : Int} (h : a % n = b % n) : (a + c) % n = (b + c) % n := by
  rw [Int.add_emod, h, ← Int.add_emod]
theorem emod_neg_congr {a b n : Int} (h : a % n = b % n) : (-a) % n = (-b) % n := by
  have h1 : n ∣ a - b := Int.dvd_of_emod_eq_zero (Int.emod_eq_emod_iff_emod_sub_eq_zero.mp h)
  refine Int.emod_eq_emod_iff_emod_sub_eq_zero.mpr ?_
  refine Int.emod_eq_zero_of_dvd ?_
  have e : -a - -b = -(a - b) := by omega
  rw [e]
  exact Int.dvd_neg.mpr h1

theorem turned_congr {a : Nat} {x y x' y' n : Int} (hx : x % n = x' % n) (hy : y % n = y' % n) :
    (turned a x y).1 % n = (turned a x' y').1 % n ∧ (turned a x y).2 % n = (turned a x' y').2 % n := by
  have nx := emod_neg_congr hx
  have ny := emod_neg_congr hy
  unfold turned
  repeat' split
  all_goals (first | exact ⟨hx, hy⟩ | exact ⟨ny, hx⟩ | exact ⟨nx, ny⟩ | exact ⟨hy, nx⟩ | exact ⟨nx, hy⟩ | exact ⟨hx, ny⟩ | exact ⟨hy, hx⟩ | exact ⟨ny, nx⟩)

theorem emod_self_congr (x n : Int) : (x % n) % n = x % n := Int.emod_emod_of_dvd x (Int.dvd_refl n)

/-- a symmetry of the square's places is one of all -/
theorem sym_iff {p : Pat} (hn : 0 < p.n) {a : Nat} {u v : Int} : sym p a u v = true ↔ ∀ x y : Int, p.at_ ((Move.mk a u v).takes x y).1 ((Move.mk a u v).takes x y).2 = p.at_ x y := by
  unfold sym
  rw [List.all_eq_true]
  constructor
  · intro h x y
    have hnz : (0 : Int) < (p.n : Int) := by omega
    have hx : x % (p.n : Int) ∈ rg p.n := mem_rg.mpr ⟨Int.emod_nonneg _ (by omega), Int.emod_lt_of_pos _ hnz⟩
    have hy : y % (p.n : Int) ∈ rg p.n := mem_rg.mpr ⟨Int.emod_nonneg _ (by omega), Int.emod_lt_of_pos _ hnz⟩
    have h1 := List.all_eq_true.mp (h _ hx) _ hy
    have h2 : p.at_ ((Move.mk a u v).takes (x % (p.n : Int)) (y % (p.n : Int))).1 ((Move.mk a u v).takes (x % (p.n : Int)) (y % (p.n : Int))).2 = p.at_ (x % (p.n : Int)) (y % (p.n : Int)) := eq_of_beq h1
    have h3 := turned_congr (a := a) (emod_self_congr x p.n) (emod_self_congr y p.n)
    have e1 : p.at_ ((Move.mk a u v).takes (x % (p.n : Int)) (y % (p.n : Int))).1 ((Move.mk a u v).takes (x % (p.n : Int)) (y % (p.n : Int))).2 = p.at_ ((Move.mk a u v).takes x y).1 ((Move.mk a u v).takes x y).2 :=
      at_mod (emod_add_congr h3.1) (emod_add_congr h3.2)
    have e2 : p.at_ (x % (p.n : Int)) (y % (p.n : Int)) = p.at_ x y := at_mod (emod_self_congr x p.n) (emod_self_congr y p.n)
    rw [← e1, ← e2]
    exact h2
  · intro h x _
    refine List.all_eq_true.mpr fun y _ => ?_
    exact beq_iff_eq.mpr (h x y)

/-! ### shifts -/
def S (p : Pat) (u v : Int) : Prop := ∀ x y : Int, p.at_ (x + u) (y + v) = p.at_ x y
theorem sym0 {p : Pat} (hn : 0 < p.n) {u v : Int} : sym p 0 u v = true ↔ S p u v := sym_iff hn
theorem S.add {p : Pat} {u v u' v' : Int} (h : S p u v) (h' : S p u' v') : S p (u + u') (v + v') := fun x y => by
  have e1 := h' (x + u) (y + v)
  have e2 := h x y
  rw [← Int.add_assoc, ← Int.add_assoc, e1, e2]
theorem S.neg {p : Pat} {u v : Int} (h : S p u v) : S p (-u) (-v) := fun x y => by
  have e := h (x + -u) (y + -v)
  have a1 : x + -u + u = x := by omega
  have a2 : y + -v + v = y := by omega
  rw [a1, a2] at e
  exact e.symm
theorem S.zero {p : Pat} : S p 0 0 := fun x y => by rw [Int.add_zero, Int.add_zero]
theorem S.nmul {p : Pat} {u v : Int} (h : S p u v) : ∀ k : Nat, S p ((k : Int) * u) ((k : Int) * v)
  | 0 => by
    have a : ((0 : Nat) : Int) * u = 0 := by simp
    have b : ((0 : Nat) : Int) * v = 0 := by simp
    rw [a, b]
    exact S.zero
  | k + 1 => by
    have a : ((k + 1 : Nat) : Int) * u = (k : Int) * u + u := by rw [Int.natCast_add, Int.add_mul]; simp
    have b : ((k + 1 : Nat) : Int) * v = (k : Int) * v + v := by rw [Int.natCast_add, Int.add_mul]; simp
    rw [a, b]
    exact (S.nmul h k).add h
theorem S.mul {p : Pat} {u v : Int} (h : S p u v) (k : Int) : S p (k * u) (k * v) := by
  rcases Int.le_total 0 k with hk | hk
  · have e := S.nmul h k.toNat
    rw [Int.toNat_of_nonneg hk] at e
    exact e
  · have e := (S.nmul h (-k).toNat).neg
    rw [Int.toNat_of_nonneg (by omega), Int.neg_mul, Int.neg_mul, Int.neg_neg, Int.neg_neg] at e
    exact e
theorem S.n0 (p : Pat) : S p (p.n : Int) 0 := fun x y => at_mod (by rw [Int.add_emod_right]) (by rw [Int.add_zero])
theorem S.n1 (p : Pat) : S p 0 (p.n : Int) := fun x y => at_mod (by rw [Int.add_zero]) (by rw [Int.add_emod_right])
theorem S.of_eq {p : Pat} {u v u' v' : Int} (h : S p u v) (e1 : u = u') (e2 : v = v') : S p u' v' := by
  subst e1 e2
  exact h

/-! ### the least ones -/
/-- e is the least above 0 with (e, 0) -/
structure Ea (p : Pat) (e : Nat) : Prop where
  pos : 0 < e
  is : S p (e : Int) 0
  least : ∀ k : Nat, 0 < k → k < e → ¬ S p (k : Int) 0
theorem Ea.dvd {p : Pat} {e : Nat} (h : Ea p e) {u : Int} (hu : S p u 0) : (e : Int) ∣ u := by
  have hp := h.pos
  have h1 : S p (u % (e : Int)) 0 := ((hu.add ((h.is.mul (u / (e : Int))).neg))).of_eq (by
    have := Int.mul_ediv_add_emod u (e : Int)
    rw [Int.mul_comm] at this
    omega) (by simp)
  have h2 : 0 ≤ u % (e : Int) := Int.emod_nonneg _ (by omega)
  have h3 : u % (e : Int) < (e : Int) := Int.emod_lt_of_pos _ (by omega)
  by_cases hz : u % (e : Int) = 0
  · exact Int.dvd_of_emod_eq_zero hz
  · have hk : S p ((u % (e : Int)).toNat : Int) 0 := h1.of_eq (by omega) rfl
    exact absurd hk (h.least _ (by omega) (by omega))
theorem Ea.iff {p : Pat} {e : Nat} (h : Ea p e) {u : Int} : S p u 0 ↔ (e : Int) ∣ u := by
  refine ⟨h.dvd, fun ⟨k, hk⟩ => (h.is.mul k).of_eq (by rw [hk, Int.mul_comm]) (by simp)⟩
/-- g is the least above 0 with some (f, g), f below e -/
structure Ga (p : Pat) (e f g : Nat) : Prop where
  pos : 0 < g
  lt : f < e
  is : S p (f : Int) (g : Int)
  least : ∀ k : Nat, 0 < k → k < g → ∀ u : Int, ¬ S p u (k : Int)
theorem Ga.dvd {p : Pat} {e f g : Nat} (h : Ga p e f g) {u v : Int} (hu : S p u v) : (g : Int) ∣ v := by
  have hp := h.pos
  have h1 : S p (u - v / (g : Int) * (f : Int)) (v % (g : Int)) := ((hu.add ((h.is.mul (v / (g : Int))).neg))).of_eq (by omega) (by
    have := Int.mul_ediv_add_emod v (g : Int)
    rw [Int.mul_comm] at this
    omega)
  have h2 : 0 ≤ v % (g : Int) := Int.emod_nonneg _ (by omega)
  have h3 : v % (g : Int) < (g : Int) := Int.emod_lt_of_pos _ (by omega)
  by_cases hz : v % (g : Int) = 0
  · exact Int.dvd_of_emod_eq_zero hz
  · have hk : S p (u - v / (g : Int) * (f : Int)) ((v % (g : Int)).toNat : Int) := h1.of_eq rfl (by omega)
    exact absurd hk (h.least _ (by omega) (by omega) _)
theorem SG_iff {p : Pat} {e f g : Nat} (he : Ea p e) (h : Ga p e f g) {u v : Int} : S p u v ↔ (g : Int) ∣ v ∧ (e : Int) ∣ u - v / (g : Int) * (f : Int) := by
  have hp := h.pos
  constructor
  · intro hu
    have hd := h.dvd hu
    refine ⟨hd, he.dvd ?_⟩
    obtain ⟨k, hk⟩ := hd
    have hq : v / (g : Int) = k := by rw [hk]; exact Int.mul_ediv_cancel_left k (by omega)
    rw [hq]
    exact (hu.add ((h.is.mul k).neg)).of_eq (by omega) (by rw [hk, Int.mul_comm]; omega)
  · rintro ⟨⟨k, hk⟩, hd⟩
    have hq : v / (g : Int) = k := by rw [hk]; exact Int.mul_ediv_cancel_left k (by omega)
    rw [hq] at hd
    have h1 := he.iff.mpr hd
    exact (h1.add (h.is.mul k)).of_eq (by omega) (by rw [hk, Int.mul_comm]; omega)

/-! ### counting, for n up to 6: e, f, g decide it -/
def cnt (n e f g : Nat) : Nat := ((((List.range n).flatMap fun (u : Nat) => (List.range n).map fun (v : Nat) => decide ((v : Int) % (g : Int) = 0 ∧ ((u : Int) - (v : Int) / (g : Int) * (f : Int)) % (e : Int) = 0)).filter fun b => b).length)
theorem cnt_all : ∀ n ∈ [1, 2, 3, 4, 5, 6], ∀ e ∈ List.range 7, ∀ g ∈ List.range 7, ∀ f ∈ List.range 7, 0 < e → 0 < g → n % e = 0 → n % g = 0 → f < e → cnt n e f g = (n / e) * (n / g) := by
  decide +kernel

theorem find_getD_eq {l : Nat} {P : Nat → Bool} {k : Nat} (hk : k < l) (h : P k = true) (hl : ∀ j, j < k → P j = false) : ((List.range l).find? P).getD 0 = k := by
  have e : (List.range l).find? P = some k := by
    rw [List.find?_eq_some_iff_append]
    refine ⟨h, List.range k, (List.range' (k + 1) (l - k - 1)), ?_, ?_⟩
    · rw [List.range_eq_range', List.range_eq_range']
      have e1 : l = k + (1 + (l - k - 1)) := by omega
      conv => lhs; rw [e1]
      rw [← List.range'_append_1, Nat.zero_add, ← List.range'_append_1]
      rfl
    · intro j hj
      have := List.mem_range.mp hj
      rw [hl j this]
      rfl
  rw [e]
  rfl

theorem cell_spec {n : Nat} {c : List Int} {e f g : Nat} (hn : 1 ≤ n ∧ n ≤ 6) (he : Ea ⟨n, nats c⟩ e) (hg : Ga ⟨n, nats c⟩ e f g) :
    PySa48.cell (n : Int) c = [0, (e : Int), (f : Int), (g : Int), ((n / e) * (n / g) : Nat)] := by
  have hn0 : 0 < (⟨n, nats c⟩ : Pat).n := by show 0 < n; omega
  have en : e ∣ n := Int.natCast_dvd_natCast.mp (he.dvd (S.n0 ⟨n, nats c⟩))
  have gn : g ∣ n := Int.natCast_dvd_natCast.mp (hg.dvd (S.n1 ⟨n, nats c⟩))
  have e0 := he.pos
  have g0 := hg.pos
  have ele : e ≤ n := Nat.le_of_dvd (by omega) en
  have gle : g ≤ n := Nat.le_of_dvd (by omega) gn
  have fl := hg.lt
  have sS : ∀ u v : Nat, sym ⟨n, nats c⟩ 0 (u : Int) (v : Int) = decide ((v : Int) % (g : Int) = 0 ∧ ((u : Int) - (v : Int) / (g : Int) * (f : Int)) % (e : Int) = 0) := fun u v => by
    rw [Bool.eq_iff_iff, sym0 hn0, SG_iff he hg, decide_eq_true_iff, Int.dvd_iff_emod_eq_zero, Int.dvd_iff_emod_eq_zero]
  have hE : ((List.range n).find? fun (u : Nat) => sym ⟨n, nats c⟩ 0 ((u + 1 : Nat) : Int) ((0 : Nat) : Int)).getD 0 = e - 1 := by
    refine find_getD_eq (by omega) ?_ fun j hj => ?_
    · rw [sym0 hn0]
      exact he.is.of_eq (by omega) rfl
    · rw [← Bool.not_eq_true, sym0 hn0]
      exact he.least (j + 1) (by omega) (by omega)
  have hG : ((List.range n).find? fun (v : Nat) => (List.range n).any fun (u : Nat) => sym ⟨n, nats c⟩ 0 (u : Int) ((v + 1 : Nat) : Int)).getD 0 = g - 1 := by
    refine find_getD_eq (by omega) ?_ fun j hj => ?_
    · rw [List.any_eq_true]
      refine ⟨f, List.mem_range.mpr (by omega), ?_⟩
      rw [sym0 hn0]
      exact hg.is.of_eq rfl (by omega)
    · rw [← Bool.not_eq_true, List.any_eq_true]
      rintro ⟨u, _, hu⟩
      rw [sym0 hn0] at hu
      exact hg.least (j + 1) (by omega) (by omega) _ hu
  have hF : ((List.range e).find? fun (u : Nat) => sym ⟨n, nats c⟩ 0 (u : Int) (g : Int)).getD 0 = f := by
    refine find_getD_eq fl ?_ fun j hj => ?_
    · rw [sym0 hn0]
      exact hg.is
    · rw [← Bool.not_eq_true, sym0 hn0]
      intro hs
      have h2 : S ⟨n, nats c⟩ (((f - j : Nat)) : Int) 0 := (hg.is.add hs.neg).of_eq (by omega) (by omega)
      exact he.least (f - j) (by omega) (by omega) h2
  have hc : (((List.range n).flatMap fun (u : Nat) => (List.range n).map fun (v : Nat) => sym ⟨n, nats c⟩ 0 (u : Int) (v : Int)).filter fun b => b).length = (n / e) * (n / g) := by
    have h1 := cnt_all n (by
      have : n = 1 ∨ n = 2 ∨ n = 3 ∨ n = 4 ∨ n = 5 ∨ n = 6 := by omega
      rcases this with rfl | rfl | rfl | rfl | rfl | rfl <;> decide) e (List.mem_range.mpr (by omega)) g (List.mem_range.mpr (by omega)) f (List.mem_range.mpr (by omega)) e0 g0 (Nat.mod_eq_zero_of_dvd en) (Nat.mod_eq_zero_of_dvd gn) fl
    rw [← h1]
    unfold cnt
    simp only [sS]
  show (if (n : Int).toNat < 1 ∨ 64 < (n : Int).toNat then [-2] else _) = _
  rw [if_neg (by omega)]
  have hnn : (n : Int).toNat = n := Int.toNat_natCast n
  dsimp only
  rw [hnn, hE, hG]
  have g1 : g - 1 + 1 = g := by omega
  have e1 : e - 1 + 1 = e := by omega
  rw [g1, e1, hF, hc]
  rfl
theorem cell_bad {n : Int} {c : List Int} (h : n < 1 ∨ 64 < n) : PySa48.cell n c = [-2] := by
  show (if n.toNat < 1 ∨ 64 < n.toNat then [-2] else _) = _
  rw [if_pos (by omega)]
end CM

namespace CH
open PySem PySem.Spec PyProof.Rows L2 Evl
open PySem.W (Codec)
/-! ### the text -/
def topS (i : Nat) : Stmt := PySem.Challenge.pw_planerepeats_s01_cell.main.body.getD i (.Pass ⟨0, 0, 0, 0⟩)
/-! def cell: slots 0 n 1 p 2 e 3 slanted 4 f 5 g; calls least_down, least_across; built-ins none -/
abbrev s_cell : Stmt := topS 1
theorem sc_cell : FnScope ["n", "p", "e", "slanted", "f", "g"] ["n", "p"] (defScope s_cell) := ⟨rfl, rfl, rfl, by decide +kernel, rfl, by decide +kernel, by decide +kernel⟩
/-! def least_across: slots 0 n 1 p 2 e; calls is_shift; built-ins range -/
abbrev s_least_across : Stmt := topS 2
theorem sc_least_across : FnScope ["n", "p", "e"] ["n", "p"] (defScope s_least_across) := ⟨rfl, rfl, rfl, by decide +kernel, rfl, by decide +kernel, by decide +kernel⟩
/-! def least_down: slots 0 n 1 p 2 e 3 g 4 f; calls is_shift; built-ins range -/
abbrev s_least_down : Stmt := topS 3
theorem sc_least_down : FnScope ["n", "p", "e", "g", "f"] ["n", "p", "e"] (defScope s_least_down) := ⟨rfl, rfl, rfl, by decide +kernel, rfl, by decide +kernel, by decide +kernel⟩
/-! def is_shift: slots 0 n 1 p 2 a 3 b 4 y 5 x; calls none; built-ins range -/
abbrev s_is_shift : Stmt := topS 4
theorem sc_is_shift : FnScope ["n", "p", "a", "b", "y", "x"] ["n", "p", "a", "b"] (defScope s_is_shift) := ⟨rfl, rfl, rfl, by decide +kernel, rfl, by decide +kernel, by decide +kernel⟩
/-! ### the mathematics of the helpers -/
def gt (c : List Int) (k : Nat) : Int := c.getD k 0
def eqAt (n : Nat) (c : List Int) (u v y x : Nat) : Bool := decide (gt c (y * n + x) = gt c ((y + v) % n * n + (x + u) % n))
/-- the request, as the helpers know it -/
structure Rq (n : Nat) (c : List Int) : Prop where
  lo : 1 ≤ n
  hi : n ≤ 6
  len : c.length = n * n
theorem ix_lt {n y x : Nat} (hy : y < n) (hx : x < n) : y * n + x < n * n := by
  have h1 : (y + 1) * n ≤ n * n := Nat.mul_le_mul_right n hy
  rw [Nat.add_mul, Nat.one_mul] at h1
  omega
theorem at_int {c : List Int} {i : Int} {k : Nat} (e : i = (k : Int)) (hk : k < c.length) : atI (c.map V.int) i = some (.int (gt c k)) := by
  rw [e]
  refine atI_nat ?_
  rw [List.getElem?_map, List.getElem?_eq_getElem hk]
  unfold gt
  rw [List.getD_eq_getElem?_getD, List.getElem?_eq_getElem hk]
  rfl
section
variable {P : Program} {w : World} {K : PySem.W.Frag} {mg : Str → Option Value} {base : Heap}
/-! ### is_shift -/
def isShift (n : Nat) (c : List Int) (u v : Nat) : Bool := (List.range n).all fun y => (List.range n).all fun x => eqAt n c u v y x
theorem isShift_iff {n : Nat} {c : List Int} {u v : Nat} : isShift n c u v = true ↔ ∀ y, y < n → ∀ x, x < n → eqAt n c u v y x = true := by
  unfold isShift
  rw [List.all_eq_true]
  constructor
  · intro h y hy x hx
    exact List.all_eq_true.mp (h y (List.mem_range.mpr hy)) x (List.mem_range.mpr hx)
  · intro h y hy
    exact List.all_eq_true.mpr fun x hx => h y (List.mem_range.mp hy) x (List.mem_range.mp hx)
theorem isShift_no {n : Nat} {c : List Int} {u v y x : Nat} (hy : y < n) (hx : x < n) (h : eqAt n c u v y x = false) : isShift n c u v = false := by
  rw [← Bool.not_eq_true, isShift_iff]
  intro z
  rw [z y hy x hx] at h
  cases h
def spIs (K : PySem.W.Frag) : Sp := fun vs H Q _ => ∃ (a : Addr) (n : Nat) (c : List Int) (u v : Nat), vs = [.int n, .ref a, .int u, .int v] ∧ SqL K H a (c.map V.int) ∧ Rq n c ∧
  ∀ H', Ex H H' → Q (.bl (isShift n c u v)) H'
theorem ok_is {f : Addr} {fd : FuncData} (F : Fun K "is_shift" "is_shift" s_is_shift f fd) (m_range : mg "range" = none) : FnOk P w K mg base CX0 1 f fd ["n", "p", "a", "b"] (spIs K) := by
  refine F.ok sc_is_shift (fun vs H Q E h => ?_) (fun cdv A outer s H vs Q E hr h => ?_)
  · obtain ⟨a, n, c, u, v, rfl, _⟩ := h
    rfl
  · obtain ⟨a, n, c, u, v, rfl, hS, R, q⟩ := h
    have n1 := R.lo
    have n6 := R.hi
    refine ⟨_,
      (pss_cons (ps_for PassesOwn.never rfl (pi_range1 rfl m_range (pa_cons (pv 0) pa_nil)) (pg_name (i := 4) sc_is_shift.nd rfl (Or.inl rfl))
            (pss_one (ps_for PassesOwn.never rfl (pi_range1 rfl m_range (pa_cons (pv 0) pa_nil)) (pg_name (i := 5) sc_is_shift.nd rfl (Or.inl rfl))
            (pss_one (ps_if (pt_cmpR op_ne (pe_ix ix_list (pv 1) (pe_op op_add (pe_op op_mul (pv 4) (pv 0)) (pv 5)) (fun _ _ => rfl)) (pe_ix ix_list (pv 1) (pe_op op_add (pe_op op_mul (pe_op op_mod (pe_op op_add (pv 4) (pv 3)) (pv 0)) (pv 0)) (pe_op op_mod (pe_op op_add (pv 5) (pv 2)) (pv 0))) (fun _ _ => rfl)) (nomark _)) (pss_one (ps_ret pe_bl)) pss_nil)))))
          (pss_one (ps_ret pe_bl)))
      , ?_⟩
    refine q_forR1 (n := (n : Int)) (ea_cons (ev_var rfl) ea_nil) ⟨by omega, by omega⟩
      (fun i σ' H' => ∃ s4 s5, σ' = [some (.int n), some (.ref a), some (.int u), some (.int v), s4, s5] ∧ Ex H H' ∧ ∀ y, y < i → ∀ x, x < n → eqAt n c u v y x = true)
      (fun H1 e => ⟨none, none, rfl, e, fun y hy => absurd hy (Nat.not_lt_zero y)⟩) ?_ ?_
    · rintro i σ' H' hi ⟨s4, s5, rfl, e1, hp⟩
      refine s_forR1 (n := (n : Int)) (ea_cons (ev_var rfl) ea_nil) ⟨by omega, by omega⟩
        (fun j σ2 H2 => ∃ s5, σ2 = [some (.int n), some (.ref a), some (.int u), some (.int v), some (.int (i : Int)), s5] ∧ Ex H H2 ∧ ∀ x, x < j → eqAt n c u v i x = true)
        (fun H1 e => ⟨s5, rfl, e1.trans e, fun x hx => absurd hx (Nat.not_lt_zero x)⟩) ?_ ?_
      · rintro j σ2 H2 hj ⟨t5, rfl, e2, hq⟩
        have hi' : i < n := by omega
        have hj' : j < n := by omega
        have k1 : i * n + j < c.length := by rw [R.len]; exact ix_lt hi' hj'
        have k2 : (i + v) % n * n + (j + u) % n < c.length := by rw [R.len]; exact ix_lt (Nat.mod_lt _ (by omega)) (Nat.mod_lt _ (by omega))
        have sq := ex_l e2 hS
        refine s_when (b := !decide (V.int (gt c (i * n + j)) = V.int (gt c ((i + v) % n * n + (j + u) % n)))) (et_test (ev_op (x := .int (gt c (i * n + j))) (y := .int (gt c ((i + v) % n * n + (j + u) % n)))
          (ev_op (ev_var rfl) (ev_op (ev_op (ev_var rfl) (ev_var rfl) (rv_I (i := (i : Int)) (j := (n : Int)) (Or.inr ⟨by omega, by omega⟩))) (ev_var rfl) rv_I0) (rv_ixL sq (at_int (by simp) k1)))
          (ev_op (ev_var rfl) (ev_op (ev_op (ev_op (ev_op (ev_var rfl) (ev_var rfl) rv_I0) (ev_var rfl) (rv_I (by omega))) (ev_var rfl) (rv_I (i := ((i : Int) + (v : Int)) % (n : Int)) (j := (n : Int)) (Or.inr ⟨by omega, by omega⟩))) (ev_op (ev_op (ev_var rfl) (ev_var rfl) rv_I0) (ev_var rfl) (rv_I (by omega))) rv_I0)
            (rv_ixL sq (at_int (by simp) k2)))
          (rv_ne rfl))) ?_ ?_
        · intro hb H3 e3
          refine s_ret ev_c fun H4 e4 => ?_
          have z := q H4 ((e2.trans e3).trans e4)
          rw [isShift_no hi' hj' ?_] at z
          · exact z
          · refine decide_eq_false fun z2 => ?_
            rw [z2, decide_eq_true rfl] at hb
            cases hb
        · intro hb H3 e3
          refine ⟨_, rfl, e2.trans e3, fun x hx => ?_⟩
          rcases Nat.lt_succ_iff_lt_or_eq.mp hx with h | rfl
          · exact hq x h
          · rw [Bool.not_eq_false', decide_eq_true_iff] at hb
            exact decide_eq_true (V.int.inj hb)
      · rintro σ2 H2 ⟨t5, rfl, e2, hq⟩
        refine ⟨_, _, rfl, e2, fun y hy => ?_⟩
        rcases Nat.lt_succ_iff_lt_or_eq.mp hy with h | rfl
        · exact hp y h
        · exact fun x hx => hq x (by omega)
    · rintro σ' H' ⟨s4, s5, rfl, e1, hp⟩
      refine s_ret ev_c fun H4 e4 => ?_
      have z := q H4 (e1.trans e4)
      rw [isShift_iff.mpr fun y hy => hp y (by omega)] at z
      exact z
theorem spIs_V {H : Hp} {a : Addr} {n : Nat} {c : List Int} {u v : Nat} (hS : SqL K H a (c.map V.int)) (R : Rq n c) : SpV (spIs K) ([.int n, .ref a, .int u, .int v] ++ []) H (.bl (isShift n c u v)) :=
  fun _ e _ q _ => ⟨a, n, c, u, v, rfl, ex_l e hS, R, fun H2 e2 => q H2 e2⟩
/-! ### least_across -/
structure LA (n : Nat) (c : List Int) (e : Nat) : Prop where
  lo : 1 ≤ e
  hi : e ≤ n
  is : e < n → isShift n c e 0 = true
  no : ∀ k, 0 < k → k < e → isShift n c k 0 = false
def spLA (K : PySem.W.Frag) : Sp := fun vs H Q _ => ∃ (a : Addr) (n : Nat) (c : List Int), vs = [.int n, .ref a] ∧ SqL K H a (c.map V.int) ∧ Rq n c ∧
  ∀ (e : Nat) H', Ex H H' → LA n c e → Q (.int e) H'
theorem ok_la {f f_is_shift : Addr} {fd fd_is_shift : FuncData} (F : Fun K "least_across" "least_across" s_least_across f fd) (F_is_shift : Fun K "is_shift" "is_shift" s_is_shift f_is_shift fd_is_shift) (b_is_shift : Binds K fd_is_shift ["n", "p", "a", "b"] [])
    (g_is_shift : mg "is_shift" = some (.ref f_is_shift)) (m_range : mg "range" = none) : FnOk P w K mg base CX0 2 f fd ["n", "p"] (spLA K) := by
  have G_is_shift : FnOk P w K mg base CX0 1 f_is_shift fd_is_shift ["n", "p", "a", "b"] (spIs K) := ok_is F_is_shift m_range
  refine F.ok sc_least_across (fun vs H Q E h => ?_) (fun cdv A outer s H vs Q E hr h => ?_)
  · obtain ⟨a, n, c, rfl, _⟩ := h
    rfl
  · obtain ⟨a, n, c, rfl, hS, R, q⟩ := h
    have n1 := R.lo
    have n6 := R.hi
    refine ⟨_,
      (pss_cons (ps_for PassesOwn.never rfl (pi_range2 rfl m_range (pa_cons pe_int (pa_cons (pv 0) pa_nil))) (pg_name (i := 2) sc_least_across.nd rfl (Or.inl rfl))
            (pss_one (ps_if (pt_val (pe_call G_is_shift (hr.mono (by decide)) (by rfl) g_is_shift F_is_shift.kp b_is_shift .nil pass0 (pa_cons (pv 0) (pa_cons (pv 1) (pa_cons (pv 2) (pa_cons pe_int pa_nil)))))) (pss_one (ps_ret (pv 2))) pss_nil)))
          (pss_one (ps_ret (pv 0))))
      , ?_⟩
    refine q_forR2 (lo := 1) (n := (n : Int)) (ea_cons ev_c (ea_cons (ev_var rfl) ea_nil)) ⟨by omega, by omega, by omega, by omega⟩
      (fun i σ' H' => ∃ s2, σ' = [some (.int n), some (.ref a), s2] ∧ Ex H H' ∧ ∀ k, 0 < k → k < i + 1 → isShift n c k 0 = false)
      (fun H1 e => ⟨none, rfl, e, fun k h1 h2 => absurd h1 (by omega)⟩) ?_ ?_
    · rintro i σ' H' hi ⟨s2, rfl, e1, hp⟩
      have ei : (1 : Int) + (i : Int) = ((i + 1 : Nat) : Int) := by omega
      rw [ei]
      refine s_when (b := isShift n c (i + 1) 0) (et_B (ev_call (ea_cons (ev_var rfl) (ea_cons (ev_var rfl) (ea_cons (ev_var rfl) (ea_cons (ev_c (v := .int ((0 : Nat) : Int))) ea_nil)))) (spIs_V (ex_l e1 hS) R))) ?_ ?_
      · intro hb H3 e3
        exact s_ret (ev_var rfl) fun H4 e4 => q (i + 1) H4 ((e1.trans e3).trans e4) ⟨by omega, by omega, fun _ => hb, hp⟩
      · intro hb H3 e3
        refine ⟨_, rfl, e1.trans e3, fun k h1 h2 => ?_⟩
        rcases Nat.lt_succ_iff_lt_or_eq.mp h2 with h | rfl
        · exact hp k h1 h
        · exact hb
    · rintro σ' H' ⟨s2, rfl, e1, hp⟩
      exact s_ret (ev_var rfl) fun H4 e4 => q n H4 (e1.trans e4) ⟨by omega, Nat.le_refl _, fun h => absurd h (Nat.lt_irrefl _), fun k h1 h2 => hp k h1 (by omega)⟩
/-! ### least_down -/
structure LD (n : Nat) (c : List Int) (e f g : Nat) : Prop where
  lo : 1 ≤ g
  hi : g ≤ n
  lt : f < e
  is : g < n → isShift n c f g = true
  at0 : g = n → f = 0
  no : ∀ k, 0 < k → k < g → ∀ u, u < e → isShift n c u k = false
def spLD (K : PySem.W.Frag) : Sp := fun vs H Q _ => ∃ (a : Addr) (n : Nat) (c : List Int) (e : Nat), vs = [.int n, .ref a, .int e] ∧ SqL K H a (c.map V.int) ∧ Rq n c ∧ 1 ≤ e ∧ e ≤ n ∧
  ∀ (f g : Nat) (p : Addr) H', H p = none → Ex H H' → H' p = some (.tup [.int f, .int g]) → LD n c e f g → Q (.ref p) H'
theorem ok_ld {f f_is_shift : Addr} {fd fd_is_shift : FuncData} (F : Fun K "least_down" "least_down" s_least_down f fd) (F_is_shift : Fun K "is_shift" "is_shift" s_is_shift f_is_shift fd_is_shift) (b_is_shift : Binds K fd_is_shift ["n", "p", "a", "b"] [])
    (g_is_shift : mg "is_shift" = some (.ref f_is_shift)) (m_range : mg "range" = none) : FnOk P w K mg base CX0 2 f fd ["n", "p", "e"] (spLD K) := by
  have G_is_shift : FnOk P w K mg base CX0 1 f_is_shift fd_is_shift ["n", "p", "a", "b"] (spIs K) := ok_is F_is_shift m_range
  refine F.ok sc_least_down (fun vs H Q E h => ?_) (fun cdv A outer s H vs Q E hr h => ?_)
  · obtain ⟨a, n, c, e, rfl, _⟩ := h
    rfl
  · obtain ⟨a, n, c, e, rfl, hS, R, l1, l2, q⟩ := h
    have n1 := R.lo
    have n6 := R.hi
    refine ⟨_,
      (pss_cons (ps_for PassesOwn.never rfl (pi_range2 rfl m_range (pa_cons pe_int (pa_cons (pv 0) pa_nil))) (pg_name (i := 3) sc_least_down.nd rfl (Or.inl rfl))
            (pss_one (ps_for PassesOwn.never rfl (pi_range1 rfl m_range (pa_cons (pv 2) pa_nil)) (pg_name (i := 4) sc_least_down.nd rfl (Or.inl rfl))
            (pss_one (ps_if (pt_val (pe_call G_is_shift (hr.mono (by decide)) (by rfl) g_is_shift F_is_shift.kp b_is_shift .nil pass0 (pa_cons (pv 0) (pa_cons (pv 1) (pa_cons (pv 4) (pa_cons (pv 3) pa_nil)))))) (pss_one (ps_ret (pe_tup (pa_cons (pv 4) (pa_cons (pv 3) pa_nil))))) pss_nil)))))
          (pss_one (ps_ret (pe_tup (pa_cons pe_int (pa_cons (pv 0) pa_nil))))))
      , ?_⟩
    refine q_forR2 (lo := 1) (n := (n : Int)) (ea_cons ev_c (ea_cons (ev_var rfl) ea_nil)) ⟨by omega, by omega, by omega, by omega⟩
      (fun i σ' H' => ∃ s3 s4, σ' = [some (.int n), some (.ref a), some (.int e), s3, s4] ∧ Ex H H' ∧ ∀ k, 0 < k → k < i + 1 → ∀ u, u < e → isShift n c u k = false)
      (fun H1 e => ⟨none, none, rfl, e, fun k h1 h2 => absurd h1 (by omega)⟩) ?_ ?_
    · rintro i σ' H' hi ⟨s3, s4, rfl, e1, hp⟩
      have ei : (1 : Int) + (i : Int) = ((i + 1 : Nat) : Int) := by omega
      rw [ei]
      refine s_forR1 (n := (e : Int)) (ea_cons (ev_var rfl) ea_nil) ⟨by omega, by omega⟩
        (fun j σ2 H2 => ∃ s4, σ2 = [some (.int n), some (.ref a), some (.int e), some (.int ((i + 1 : Nat) : Int)), s4] ∧ Ex H H2 ∧ ∀ u, u < j → isShift n c u (i + 1) = false)
        (fun H1 e => ⟨s4, rfl, e1.trans e, fun x hx => absurd hx (Nat.not_lt_zero x)⟩) ?_ ?_
      · rintro j σ2 H2 hj ⟨s4, rfl, e2, hq⟩
        refine s_when (b := isShift n c j (i + 1)) (et_B (ev_call (ea_cons (ev_var rfl) (ea_cons (ev_var rfl) (ea_cons (ev_var rfl) (ea_cons (ev_var rfl) ea_nil)))) (spIs_V (ex_l e2 hS) R))) ?_ ?_
        · intro hb H3 e3
          exact s_retU (eu_tup (ea_cons (ev_var rfl) (ea_cons (ev_var rfl) ea_nil)) (by show 2 ≤ 100000; decide)) fun p H4 hp4 e4 h4 =>
            q j (i + 1) p H4 (fresh_back (e2.trans e3) hp4) ((e2.trans e3).trans e4) h4 ⟨by omega, by omega, by omega, fun _ => hb, fun _ => by omega, hp⟩
        · intro hb H3 e3
          refine ⟨_, rfl, e2.trans e3, fun u hu => ?_⟩
          rcases Nat.lt_succ_iff_lt_or_eq.mp hu with h | rfl
          · exact hq u h
          · exact hb
      · rintro σ2 H2 ⟨s4, rfl, e2, hq⟩
        refine ⟨_, _, rfl, e2, fun k h1 h2 => ?_⟩
        rcases Nat.lt_succ_iff_lt_or_eq.mp h2 with h | rfl
        · exact hp k h1 h
        · exact fun u hu => hq u (by omega)
    · rintro σ' H' ⟨s3, s4, rfl, e1, hp⟩
      exact s_retU (eu_tup (ea_cons (ev_c (v := .int ((0 : Nat) : Int))) (ea_cons (ev_var rfl) ea_nil)) (by show 2 ≤ 100000; decide)) fun p H4 hp4 e4 h4 =>
        q 0 n p H4 (fresh_back e1 hp4) (e1.trans e4) h4 ⟨by omega, Nat.le_refl _, by omega, fun h => absurd h (Nat.lt_irrefl _), fun _ => rfl, fun k h1 h2 => hp k h1 (by omega)⟩
/-! ### the helpers' words are the specification's -/
theorem getD_nats : ∀ (c : List Int) (k : Nat), (Sa48Neutral.nats c).getD k 0 = (gt c k).toNat
  | [], k => by
    show ([] : List Nat).getD k 0 = (([] : List Int).getD k 0).toNat
    rw [List.getD_nil, List.getD_nil]
    rfl
  | z :: c, 0 => rfl
  | z :: c, k + 1 => by
    have ih := getD_nats c k
    unfold gt at ih ⊢
    rw [List.getD_cons_succ, ← ih]
    exact List.getD_cons_succ
theorem at_nat {n : Nat} {c : List Int} (x y : Nat) : (⟨n, Sa48Neutral.nats c⟩ : Sa48.Pat).at_ (x : Int) (y : Int) = (gt c (y % n * n + x % n)).toNat := by
  rw [← getD_nats]
  unfold Sa48.Pat.at_
  dsimp only
  rw [← Int.natCast_emod, ← Int.natCast_emod, Int.toNat_natCast, Int.toNat_natCast]
theorem gt_nn {c : List Int} (hc : ∀ z ∈ c, 0 ≤ z) (k : Nat) : 0 ≤ gt c k := by
  unfold gt
  rw [List.getD_eq_getElem?_getD]
  cases e : c[k]? with
  | none => exact Int.le_refl 0
  | some z => exact hc z (List.mem_of_getElem? e)
theorem isShift_S {n : Nat} {c : List Int} {u v : Nat} (hn : 1 ≤ n) (hc : ∀ z ∈ c, 0 ≤ z) : isShift n c u v = true ↔ CM.S ⟨n, Sa48Neutral.nats c⟩ (u : Int) (v : Int) := by
  have key : ∀ y, y < n → ∀ x, x < n → (eqAt n c u v y x = true ↔ (⟨n, Sa48Neutral.nats c⟩ : Sa48.Pat).at_ ((x : Int) + (u : Int)) ((y : Int) + (v : Int)) = (⟨n, Sa48Neutral.nats c⟩ : Sa48.Pat).at_ (x : Int) (y : Int)) := fun y hy x hx => by
    rw [← Int.natCast_add, ← Int.natCast_add, at_nat, at_nat, Nat.mod_eq_of_lt hx, Nat.mod_eq_of_lt hy]
    unfold eqAt
    rw [decide_eq_true_iff]
    have h1 := gt_nn hc (y * n + x)
    have h2 := gt_nn hc ((y + v) % n * n + (x + u) % n)
    omega
  rw [isShift_iff]
  constructor
  · intro h
    refine (CM.sym0 (p := ⟨n, Sa48Neutral.nats c⟩) (by show 0 < n; omega)).mp ?_
    unfold Sa48Neutral.sym
    refine List.all_eq_true.mpr fun x hx => List.all_eq_true.mpr fun y hy => ?_
    have hx' := CM.mem_rg.mp hx
    have hy' := CM.mem_rg.mp hy
    have z := (key y.toNat (by have : (y : Int) < (n : Int) := hy'.2; omega) x.toNat (by have : (x : Int) < (n : Int) := hx'.2; omega)).mp (h _ (by have : (y : Int) < (n : Int) := hy'.2; omega) _ (by have : (x : Int) < (n : Int) := hx'.2; omega))
    rw [Int.toNat_of_nonneg hx'.1, Int.toNat_of_nonneg hy'.1] at z
    exact beq_iff_eq.mpr z
  · intro h y hy x hx
    exact (key y hy x hx).mpr (h x y)
theorem not_S {n : Nat} {c : List Int} {u v : Nat} (hn : 1 ≤ n) (hc : ∀ z ∈ c, 0 ≤ z) (h : isShift n c u v = false) : ¬ CM.S ⟨n, Sa48Neutral.nats c⟩ (u : Int) (v : Int) := fun z => by
  rw [(isShift_S hn hc).mpr z] at h
  cases h
theorem ea_of {n : Nat} {c : List Int} {e : Nat} (hn : 1 ≤ n) (hc : ∀ z ∈ c, 0 ≤ z) (h : LA n c e) : CM.Ea ⟨n, Sa48Neutral.nats c⟩ e := by
  have h1 := h.lo
  have h2 := h.hi
  refine ⟨h.lo, ?_, fun k a b => not_S (v := 0) hn hc (h.no k a b)⟩
  by_cases g : e < n
  · exact (isShift_S (v := 0) hn hc).mp (h.is g)
  · obtain rfl : e = n := by omega
    exact CM.S.n0 _
theorem ga_of {n : Nat} {c : List Int} {e f g : Nat} (hn : 1 ≤ n) (hc : ∀ z ∈ c, 0 ≤ z) (ea : CM.Ea ⟨n, Sa48Neutral.nats c⟩ e) (h : LD n c e f g) : CM.Ga ⟨n, Sa48Neutral.nats c⟩ e f g := by
  have h1 := h.lo
  have h2 := h.hi
  have h3 := ea.pos
  refine ⟨h.lo, h.lt, ?_, fun k a b u z => ?_⟩
  · by_cases l : g < n
    · exact (isShift_S hn hc).mp (h.is l)
    · obtain rfl : g = n := by omega
      rw [h.at0 rfl]
      exact CM.S.n1 _
  · have hz : CM.S ⟨n, Sa48Neutral.nats c⟩ ((u % (e : Int)).toNat : Int) (k : Int) := (z.add ((ea.is.mul (u / (e : Int))).neg)).of_eq (by
      have p1 := Int.mul_ediv_add_emod u (e : Int)
      have p2 : 0 ≤ u % (e : Int) := Int.emod_nonneg _ (by omega)
      rw [Int.mul_comm] at p1
      omega) (by simp)
    have p3 : u % (e : Int) < (e : Int) := Int.emod_lt_of_pos _ (by omega)
    exact not_S hn hc (h.no k a b _ (by omega)) hz
/-! ### cell -/
def spCell (K : PySem.W.Frag) : Sp := fun vs H Q _ => ∃ (a : Addr) (m : Int) (c : List Int), vs = [.int m, .ref a] ∧ SqL K H a (c.map V.int) ∧ ((m < 1 ∨ 64 < m) ∨ ∃ n : Nat, m = (n : Int) ∧ Rq n c ∧ ∀ z ∈ c, 0 ≤ z) ∧
  ∀ p H', H' p = some (.lst ((PySa48.cell m c).map V.int)) → Q (.ref p) H'
theorem ok_cell {f f_is_shift f_least_across f_least_down : Addr} {fd fd_is_shift fd_least_across fd_least_down : FuncData} (F : Fun K "cell" "cell" s_cell f fd)
    (F_is_shift : Fun K "is_shift" "is_shift" s_is_shift f_is_shift fd_is_shift) (b_is_shift : Binds K fd_is_shift ["n", "p", "a", "b"] []) (g_is_shift : mg "is_shift" = some (.ref f_is_shift))
    (F_least_across : Fun K "least_across" "least_across" s_least_across f_least_across fd_least_across) (b_least_across : Binds K fd_least_across ["n", "p"] []) (g_least_across : mg "least_across" = some (.ref f_least_across))
    (F_least_down : Fun K "least_down" "least_down" s_least_down f_least_down fd_least_down) (b_least_down : Binds K fd_least_down ["n", "p", "e"] []) (g_least_down : mg "least_down" = some (.ref f_least_down))
    (m_range : mg "range" = none) : FnOk P w K mg base CX0 3 f fd ["n", "p"] (spCell K) := by
  have G_least_across : FnOk P w K mg base CX0 2 f_least_across fd_least_across ["n", "p"] (spLA K) := ok_la F_least_across F_is_shift b_is_shift g_is_shift m_range
  have G_least_down : FnOk P w K mg base CX0 2 f_least_down fd_least_down ["n", "p", "e"] (spLD K) := ok_ld F_least_down F_is_shift b_is_shift g_is_shift m_range
  refine F.ok sc_cell (fun vs H Q E h => ?_) (fun cdv A outer s H vs Q E hr h => ?_)
  · obtain ⟨a, m, c, rfl, _⟩ := h
    rfl
  · obtain ⟨a, m, c, rfl, hS, hm, q⟩ := h
    refine ⟨_,
      (pss_cons (ps_if (PW.pt (pw_or (pt_cmpR op_lt (pv 0) pe_int (nomark _)) (pw_or1 (pt_cmpR op_gt (pv 0) pe_int (nomark _))))) (pss_one (ps_ret (pe_lst (pa_cons (pe_un un_neg pe_int) pa_nil)))) pss_nil)
          (pss_cons (ps_set (i := 2) sc_cell.nd rfl (Or.inl rfl) (pe_call G_least_across (hr.mono (by decide)) (by rfl) g_least_across F_least_across.kp b_least_across .nil pass0 (pa_cons (pv 0) (pa_cons (pv 1) pa_nil))))
          (pss_cons (ps_set (i := 3) sc_cell.nd rfl (Or.inl rfl) (pe_call G_least_down (hr.mono (by decide)) (by rfl) g_least_down F_least_down.kp b_least_down .nil pass0 (pa_cons (pv 0) (pa_cons (pv 1) (pa_cons (pv 2) pa_nil)))))
          (pss_cons (ps_set (i := 4) sc_cell.nd rfl (Or.inl rfl) (pe_ix ix_tup (pv 3) pe_int (fun _ _ => rfl)))
          (pss_cons (ps_set (i := 5) sc_cell.nd rfl (Or.inl rfl) (pe_ix ix_tup (pv 3) pe_int (fun _ _ => rfl)))
          (pss_one (ps_ret (pe_lst (pa_cons pe_int (pa_cons (pv 2) (pa_cons (pv 4) (pa_cons (pv 5) (pa_cons (pe_op op_mul (pe_op op_fdiv (pv 0) (pv 2)) (pe_op op_fdiv (pv 0) (pv 5))) pa_nil)))))))))))))
      , ?_⟩
    refine q_when (b := decide (m < 1) || decide (64 < m)) (et_or (et_test (ev_op (ev_var rfl) ev_c rv_I0)) fun _ => et_test (ev_op (ev_var rfl) ev_c rv_I0)) ?_ ?_
    · intro hb H1 e1
      rw [Bool.or_eq_true, decide_eq_true_iff, decide_eq_true_iff] at hb
      refine s_retL (el_lst (ea_cons (ev_un ev_c ru_neg) ea_nil) (by show 1 ≤ 100000; decide)) fun p H2 _ _ h2 => q p H2 ?_
      rw [CM.cell_bad hb]
      exact h2
    · intro hb H1 e1
      rw [Bool.or_eq_false_iff, decide_eq_false_iff_not, decide_eq_false_iff_not] at hb
      obtain ⟨n, rfl, R, hc⟩ := hm.resolve_left (by omega)
      have n1 := R.lo
      have n6 := R.hi
      refine ⟨_, rfl, _, rfl, a, n, c, rfl, ex_l e1 hS, R, fun e H2 e2 hLA => ?_⟩
      have ea := ea_of R.lo hc hLA
      have l1 := hLA.lo
      have l2 := hLA.hi
      refine ⟨_, rfl, _, rfl, _, rfl, a, n, c, e, rfl, ex_l (e1.trans e2) hS, R, hLA.lo, hLA.hi, fun f g t H3 _ e3 ht hLD => ?_⟩
      have ga := ga_of R.lo hc ea hLD
      have l3 := hLD.lo
      have l4 := hLD.hi
      refine q_asg (ev_op (ev_var rfl) ev_c (rv_ixT (v := .int f) (st_of ht) (atI_nat (j := 0) rfl))) fun H4 e4 => ?_
      refine q_asg (ev_op (ev_var rfl) ev_c (rv_ixT (v := .int g) (st_of (e4 _ _ ht)) (atI_nat (j := 1) rfl))) fun H5 e5 => ?_
      have d1 : (n : Int) / (e : Int) = ((n / e : Nat) : Int) := (Int.natCast_ediv n e).symm
      have d2 : (n : Int) / (g : Int) = ((n / g : Nat) : Int) := (Int.natCast_ediv n g).symm
      have d3 : (n : Int) / (e : Int) ≤ (n : Int) := by
        rw [d1]
        exact Int.ofNat_le.mpr (Nat.div_le_self n e)
      have d4 : 0 ≤ (n : Int) / (e : Int) := Int.ediv_nonneg (by omega) (by omega)
      refine s_retL (el_lst (ea_cons ev_c (ea_cons (ev_var rfl) (ea_cons (ev_var rfl) (ea_cons (ev_var rfl) (ea_cons (ev_op (ev_op (ev_var rfl) (ev_var rfl) (rv_I ⟨by omega, by omega⟩)) (ev_op (ev_var rfl) (ev_var rfl) (rv_I ⟨by omega, by omega⟩))
        (rv_I (Or.inl ⟨by omega, by omega⟩))) ea_nil))))) (by show 5 ≤ 100000; decide)) fun p H6 _ _ h6 => q p H6 ?_
      rw [CM.cell_spec ⟨n1, n6⟩ ea ga, h6, d1, d2]
      rfl
end
theorem asked_is {m : Int} {c : List Int} (h : Sa48Neutral.square m c = true) : (m < 1 ∨ 64 < m) ∨ ∃ n : Nat, m = (n : Int) ∧ Rq n c ∧ ∀ z ∈ c, 0 ≤ z := by
  unfold Sa48Neutral.square at h
  rw [Bool.and_eq_true, Bool.and_eq_true] at h
  obtain ⟨_, h2, h3⟩ := h
  by_cases hm : 1 ≤ m ∧ m ≤ 64
  · rw [if_pos hm, Bool.and_eq_true, decide_eq_true_iff, decide_eq_true_iff] at h3
    refine .inr ⟨m.toNat, by omega, ⟨by omega, by omega, ?_⟩, fun z hz => ?_⟩
    · have e : ((m.toNat : Nat) : Int) = m := Int.toNat_of_nonneg (by omega)
      have e2 : ((m.toNat * m.toNat : Nat) : Int) = m * m := by rw [Int.natCast_mul, e]
      omega
    · have z1 := List.all_eq_true.mp h2 z hz
      unfold Sa48Neutral.natural at z1
      rw [Bool.and_eq_true, decide_eq_true_iff] at z1
      exact z1.1
  · exact .inl (by omega)
/-! ### the end -/
theorem all_mk {P : Program} {w : World} {K : PySem.W.Frag} {h : Heap} {mg : Str → Option Value} {fa f_is_shift f_least_down f_least_across f_cell : Addr} (X : K.In h) (G : h.Ns mainGlobals mg) (hfa : mg "cell" = some (.ref fa))
    {od_is_shift an_is_shift od_least_down an_least_down od_least_across an_least_across od_cell an_cell : Option Addr} {sl_is_shift sl_least_down sl_least_across sl_cell : Array (Option Value)} {oc_is_shift kV_is_shift dc_is_shift pm_is_shift cd_is_shift ct_is_shift oc_least_down kV_least_down dc_least_down pm_least_down cd_least_down ct_least_down oc_least_across kV_least_across dc_least_across pm_least_across cd_least_across ct_least_across oc_cell kV_cell dc_cell pm_cell cd_cell ct_cell : Value}
    (a_is_shift : PySem.W.nsIn K mainGlobals "is_shift" = some (some (.ref f_is_shift))) (l_is_shift : K.lookup f_is_shift = some ⟨oc_is_shift, od_is_shift, .func (PySem.W.fnOf "is_shift" "is_shift" (defArgs s_is_shift) (defBody s_is_shift) (defScope s_is_shift) .none kV_is_shift dc_is_shift pm_is_shift an_is_shift cd_is_shift ct_is_shift), sl_is_shift⟩) (c_is_shift : PySem.W.codeIn K cd_is_shift "is_shift" = true) (k_is_shift : PySem.W.keepIn K (.ref f_is_shift) = true)
    (a_least_down : PySem.W.nsIn K mainGlobals "least_down" = some (some (.ref f_least_down))) (l_least_down : K.lookup f_least_down = some ⟨oc_least_down, od_least_down, .func (PySem.W.fnOf "least_down" "least_down" (defArgs s_least_down) (defBody s_least_down) (defScope s_least_down) .none kV_least_down dc_least_down pm_least_down an_least_down cd_least_down ct_least_down), sl_least_down⟩) (c_least_down : PySem.W.codeIn K cd_least_down "least_down" = true) (k_least_down : PySem.W.keepIn K (.ref f_least_down) = true)
    (a_least_across : PySem.W.nsIn K mainGlobals "least_across" = some (some (.ref f_least_across))) (l_least_across : K.lookup f_least_across = some ⟨oc_least_across, od_least_across, .func (PySem.W.fnOf "least_across" "least_across" (defArgs s_least_across) (defBody s_least_across) (defScope s_least_across) .none kV_least_across dc_least_across pm_least_across an_least_across cd_least_across ct_least_across), sl_least_across⟩) (c_least_across : PySem.W.codeIn K cd_least_across "least_across" = true) (k_least_across : PySem.W.keepIn K (.ref f_least_across) = true)
    (a_cell : PySem.W.nsIn K mainGlobals "cell" = some (some (.ref f_cell))) (l_cell : K.lookup f_cell = some ⟨oc_cell, od_cell, .func (PySem.W.fnOf "cell" "cell" (defArgs s_cell) (defBody s_cell) (defScope s_cell) .none kV_cell dc_cell pm_cell an_cell cd_cell ct_cell), sl_cell⟩) (c_cell : PySem.W.codeIn K cd_cell "cell" = true) (k_cell : PySem.W.keepIn K (.ref f_cell) = true)
    (z_range : PySem.W.nsIn K mainGlobals "range" = some none)
    : ∃ fd : FuncData, (∀ (s : Shared) (us : List Value), us.length = (["n", "p"] : List Str).length → BindsTo s fd ⟨us, []⟩ ((["n", "p"] : List Str).zip us)) ∧ ∀ base : Heap, K.In base → base.Ns mainGlobals mg → FnOk P w K mg base CX0 3 fa fd ["n", "p"] (spCell K) := by
  have e := hfa.symm.trans (PySem.W.mg_of X G a_cell)
  cases e
  have F_is_shift := fun_mk (st := s_is_shift) l_is_shift c_is_shift k_is_shift
  have b_is_shift := F_is_shift.binds (ps := ["n", "p", "a", "b"]) fun _ _ _ _ _ _ us hl => match us, hl with | [_, _, _, _], _ => rfl
  have g_is_shift := PySem.W.mg_of X G a_is_shift
  have F_least_down := fun_mk (st := s_least_down) l_least_down c_least_down k_least_down
  have b_least_down := F_least_down.binds (ps := ["n", "p", "e"]) fun _ _ _ _ _ _ us hl => match us, hl with | [_, _, _], _ => rfl
  have g_least_down := PySem.W.mg_of X G a_least_down
  have F_least_across := fun_mk (st := s_least_across) l_least_across c_least_across k_least_across
  have b_least_across := F_least_across.binds (ps := ["n", "p"]) fun _ _ _ _ _ _ us hl => match us, hl with | [_, _], _ => rfl
  have g_least_across := PySem.W.mg_of X G a_least_across
  have F_cell := fun_mk (st := s_cell) l_cell c_cell k_cell
  have m_range := PySem.W.mg_none_of X G z_range
  exact ⟨PySem.W.fnOf "cell" "cell" (defArgs s_cell) (defBody s_cell) (defScope s_cell) .none kV_cell dc_cell pm_cell an_cell cd_cell ct_cell, fun s us hu => match us, hu with | [_, _], _ => .of_eq rfl, fun base _ _ => ok_cell F_cell F_is_shift b_is_shift g_is_shift F_least_across b_least_across g_least_across F_least_down b_least_down g_least_down m_range⟩
end CH
open PySem PySem.W PyProof.Rows
set_option maxRecDepth 100000 in
set_option maxHeartbeats 8000000 in
theorem PySem.Challenge.cw_planerepeats_s01_cell_holds : PySem.Challenge.rw_planerepeats_s01_cell.Holds := by
  w_on; k_headS; (case hw => exact ⟨[.int 0, .list []], by decide +kernel, by decide +kernel⟩)
  k_fillS
  refine L2.walk_specK (r := PySem.Challenge.rw_planerepeats_s01_cell) (k := 3) (CX := L2.CX0) (ps := ["n", "p"]) (sp := CH.spCell) (by decide +kernel) rfl rfl ⟨rfl, by decide, by decide⟩ (fun w h Y => PySem.W.kIn_of Y) ?F ?S (fun _ _ _ _ z => z)
  case F =>
    intro w mg fa h Y KX G hmg
    refine' CH.all_mk KX G hmg ?a_is_shift ?l_is_shift ?c_is_shift ?k_is_shift ?a_least_down ?l_least_down ?c_least_down ?k_least_down ?a_least_across ?l_least_across ?c_least_across ?k_least_across ?a_cell ?l_cell ?c_cell ?k_cell ?z_range
    (case a_is_shift => k_is); (case l_is_shift => k_is); (case c_is_shift => k_is); (case k_is_shift => k_is); (case a_least_down => k_is); (case l_least_down => k_is); (case c_least_down => k_is); (case k_least_down => k_is); (case a_least_across => k_is); (case l_least_across => k_is); (case c_least_across => k_is); (case k_least_across => k_is); (case a_cell => k_is); (case l_cell => k_is); (case c_cell => k_is); (case k_cell => k_is); (case z_range => k_is)
  case S =>
    intro K H xs a hO hwi hask hx
    cases hx with
    | cons h1 h2 =>
      cases h2 with
      | cons h3 h4 =>
        cases h4
        cases h1
        cases h3 with
        | lst hs ha =>
          have e := L2.ints_dw a.2.1 _ ha
          subst e
          exact ⟨_, a.1, a.2.1, rfl, hs, CH.asked_is hask, fun p H' hp => .lst (L2.SqL.of hp) (L2.dw_ints _)⟩
#print axioms PySem.Challenge.cw_planerepeats_s01_cell_holds
