import PyProof.Rows.All
import Wide.All
import OpenK.AllK
import Wide.FinOn
import Open.SpecLaws
import KE.OsGo
import HandS.ForSpec
import HandS.Evl
import HandS.SetFor
import PySem.Challenge.RW_planerepeats_s04_least
import HandS.TupSets
import HandS.Zip
import PyProof.MinMaxWalk
set_option Elab.async false
set_option linter.all false
set_option maxRecDepth 100000
set_option Elab.async false
set_option linter.all false
set_option maxRecDepth 100000
/-! A set made of up to 300 tuples of whole numbers: its table, its search, how many it holds. -/
namespace BS
open PySem PySem.Spec PyProof.Rows L2

/-! ### the round of 5 x + 1, for 512 slots -/
/-- the slots met in k steps from x, as bits of one number -/
def met (m : Nat) : Nat → Nat → Nat → Nat
  | 0, _, a => a
  | k + 1, x, a => met m k ((x * 5 + 1) % (m + 1)) (a ||| (1 <<< x))
theorem lcg_front (m x : Nat) : ∀ b, lcgI m ((x * 5 + 1) % (m + 1)) b = lcgI m x (b + 1)
  | 0 => rfl
  | b + 1 => by
    have h := lcg_front m x b
    unfold lcgI
    rw [h]
theorem met_bit (m j : Nat) : ∀ (k x a : Nat), (met m k x a).testBit j = true → a.testBit j = true ∨ ∃ b, b < k ∧ lcgI m x b = j
  | 0, _, _, h => .inl h
  | k + 1, x, a, h => by
    rcases met_bit m j k _ _ h with h | ⟨b, hb, e⟩
    · rw [Nat.testBit_or, Bool.or_eq_true] at h
      rcases h with h | h
      · exact .inl h
      · rw [Nat.one_shiftLeft, Nat.testBit_two_pow, decide_eq_true_iff] at h
        exact .inr ⟨0, Nat.succ_pos k, h⟩
    · exact .inr ⟨b + 1, Nat.succ_lt_succ hb, by rw [← lcg_front]; exact e⟩
theorem met_511 : met 511 512 0 0 = 2 ^ 512 - 1 := by decide +kernel
theorem home_511 : lcgI 511 0 512 = 0 := by decide +kernel
theorem from0 {j : Nat} (h : j ≤ 511) : ∃ b, b ≤ 511 ∧ lcgI 511 0 b = j := by
  have z : (met 511 512 0 0).testBit j = true := by
    rw [met_511, Nat.testBit_two_pow_sub_one]
    exact decide_eq_true (show j < 512 by omega)
  rcases met_bit 511 j 512 0 0 z with z | ⟨b, hb, e⟩
  · rw [Nat.zero_testBit] at z
    cases z
  · exact ⟨b, by omega, e⟩
theorem lcg_more (m x a : Nat) : ∀ b, lcgI m (lcgI m x a) b = lcgI m x (a + b)
  | 0 => rfl
  | b + 1 => by
    have h := lcg_more m x a b
    show (lcgI m (lcgI m x a) b * 5 + 1) % (m + 1) = (lcgI m x (a + b) * 5 + 1) % (m + 1)
    rw [h]
theorem from_any {i j : Nat} (hi : i ≤ 511) (hj : j ≤ 511) : ∃ k, k ≤ 511 ∧ lcgI 511 i k = j := by
  obtain ⟨a, ha, ea⟩ := from0 hi
  obtain ⟨b, hb, eb⟩ := from0 hj
  by_cases l : a ≤ b
  · refine ⟨b - a, by omega, ?_⟩
    rw [← ea, lcg_more, Nat.add_sub_cancel' l]
    exact eb
  · refine ⟨512 + b - a, by omega, ?_⟩
    have e : a + (512 + b - a) = 512 + b := by omega
    rw [← ea, lcg_more, e, ← lcg_more, home_511]
    exact eb
/-- the masks that come -/
def Msk (m : Nat) : Prop := MaskOk m ∨ m = 511
theorem Msk.cases {m : Nat} (h : Msk m) : m = 7 ∨ m = 31 ∨ m = 127 ∨ m = 511 := by
  rcases h with (h | h | h) | h <;> omega
/-- each slot begins a run of the way, early -/
theorem run_at {m : Nat} (hm : Msk m) (h : Int) {j : Nat} (hj : j ≤ m) : ∃ n, n ≤ m + 12 ∧ runI m (SetTable.bits h) n = j := by
  rcases hm with hm | rfl
  · exact run_meets hm h hj
  · obtain ⟨k, hk, e⟩ := from_any (runI_le 511 (SetTable.bits h) 12) hj
    refine ⟨12 + k, by omega, ?_⟩
    rw [runI_tail (bits_lt h) k]
    exact e
theorem way_top {m : Nat} (h : Int) (k : Nat) : way m h k ≤ m := by
  have s := runEnd_bd (show SetTable.bits h % (m + 1) ≤ m from Nat.le_of_lt_succ (Nat.mod_lt _ (Nat.succ_pos m)))
  have z := nth_in (m := m) k (runAt m (SetTable.bits h % (m + 1)) (SetTable.bits h)) (by
    have e1 : (runAt m (SetTable.bits h % (m + 1)) (SetTable.bits h)).j = SetTable.bits h % (m + 1) := rfl
    have e2 : (runAt m (SetTable.bits h % (m + 1)) (SetTable.bits h)).more = SetTable.runEnd m (SetTable.bits h % (m + 1)) - SetTable.bits h % (m + 1) := rfl
    rw [e1, e2]
    omega)
  exact Nat.le_trans (Nat.le_add_right _ _) z

/-! ### on the way -/
/-- the way of h comes to j, by slots of S alone -/
def By (m : Nat) (S : Nat → Prop) (h : Int) (j : Nat) : Prop := ∃ k, way m h k = j ∧ ∀ c, c < k → S (way m h c)
theorem By.mono {m : Nat} {S S' : Nat → Prop} {h : Int} {j : Nat} (x : By m S h j) (hs : ∀ c, S c → S' c) : By m S' h j := by
  obtain ⟨k, e, b⟩ := x
  exact ⟨k, e, fun c hc => hs _ (b c hc)⟩
/-- where something isn't of S, the first such on the way -/
theorem first_off {m : Nat} (hm : Msk m) (S : Nat → Prop) (h : Int) {j : Nat} (hj : j ≤ m) (hn : ¬ S j) : ∃ n K, n ≤ m + 12 ∧ K ≤ off m (SetTable.bits h % (m + 1)) (SetTable.bits h) n ∧ ¬ S (way m h K) ∧ ∀ c, c < K → S (way m h c) := by
  obtain ⟨n, hl, e⟩ := run_at hm h hj
  have there : way m h (off m (SetTable.bits h % (m + 1)) (SetTable.bits h) n) = j := by
    rw [← e]
    show (nth m _ _).j = _
    rw [nth_off, itL_run]
    rfl
  obtain ⟨K, k1, k2, k3⟩ := st_least (p := fun k => ¬ S (way m h k)) (off m (SetTable.bits h % (m + 1)) (SetTable.bits h) n) (by rw [there]; exact hn)
  exact ⟨n, K, hl, k1, k2, fun c hc => Classical.not_not.mp (k3 c hc)⟩
/-- so many runs are so many steps at the most -/
theorem off_le (m : Nat) : ∀ (n i b : Nat), i ≤ m → off m i b n ≤ 10 * n
  | 0, _, _, _ => Nat.le_refl 0
  | n + 1, i, b, hi => by
    have h1 := runEnd_bd hi
    have h2 := off_le m n (SetTable.leap m i b).1 (SetTable.leap m i b).2 (leap_le m i b)
    show (SetTable.runEnd m i - i + 1) + off m (SetTable.leap m i b).1 (SetTable.leap m i b).2 n ≤ _
    omega

/-! ### a table that finds all it holds -/
theorem mem_put {α : Type} {l : List α} {p : Nat} {x y : α} : y ∈ l.take p ++ x :: l.drop p ↔ y = x ∨ y ∈ l := mem_ins
theorem zip_put {α β : Type} : ∀ {l : List α} {r : List β} {p : Nat} {x : α} {y : β} {e : α × β}, l.length = r.length → e ∈ (l.take p ++ x :: l.drop p).zip (r.take p ++ y :: r.drop p) → e = (x, y) ∨ e ∈ l.zip r
  | l, r, 0, x, y, e, _, h => by
    rcases List.mem_cons.mp h with h | h
    · exact .inl h
    · exact .inr h
  | [], [], p + 1, x, y, e, _, h => by
    rcases List.mem_cons.mp h with h | h
    · exact .inl h
    · exact absurd h (by simp)
  | a :: l, b :: r, p + 1, x, y, e, hl, h => by
    rcases List.mem_cons.mp h with rfl | h
    · exact .inr (List.mem_cons_self ..)
    · rcases zip_put (Nat.succ.inj hl) h with h | h
      · exact .inl h
      · exact .inr (List.mem_cons_of_mem _ h)
  | [], _ :: _, _ + 1, _, _, _, hl, _ => by cases hl
  | _ :: _, [], _ + 1, _, _, _, hl, _ => by cases hl
theorem mem_zip_at {α β : Type} : ∀ {l : List α} {r : List β} {i : Nat} {x : α} {y : β}, l[i]? = some x → r[i]? = some y → (x, y) ∈ l.zip r
  | a :: l, b :: r, 0, x, y, h1, h2 => by
    cases h1
    cases h2
    exact List.mem_cons_self ..
  | a :: l, b :: r, i + 1, x, y, h1, h2 => List.mem_cons_of_mem _ (mem_zip_at (l := l) (r := r) (i := i) h1 h2)
  | [], _, _, _, _, h1, _ => by cases h1
  | _ :: _, [], _, _, _, _, h2 => by cases h2
structure Tb (t : SetTable) (hs : List Int) : Prop where
  up : Ris t.place.toList
  clean : t.dummies = #[]
  as : t.place.toList.length = hs.length
  msk : Msk t.mask
  top : ∀ j ∈ t.place.toList, j ≤ t.mask
  on : ∀ e ∈ hs.zip t.place.toList, By t.mask (fun c => c ∈ t.place.toList) e.1 e.2
/-- the first slot on the way that isn't taken -/
theorem Tb.gap {t : SetTable} {hs : List Int} (T : Tb t hs) (hl : hs.length ≤ t.mask) (h : Int) : ∃ K, K < 10 * SetTable.turns t.mask ∧ way t.mask h K ∉ t.place.toList ∧ ∀ c, c < K → way t.mask h c ∈ t.place.toList := by
  obtain ⟨j, hj, hn⟩ := st_missing t.place.toList (t.mask + 1) (by rw [T.as]; omega)
  obtain ⟨n, K, h1, h2, h3, h4⟩ := first_off T.msk (fun c => c ∈ t.place.toList) h (show j ≤ t.mask by omega) hn
  have h5 := off_le t.mask n _ (SetTable.bits h) (show SetTable.bits h % (t.mask + 1) ≤ t.mask from Nat.le_of_lt_succ (Nat.mod_lt _ (Nat.succ_pos _)))
  refine ⟨K, ?_, h3, h4⟩
  unfold SetTable.turns
  omega
/-- whatever has this hash stands ahead of the gap -/
theorem Tb.ahead {t : SetTable} {hs : List Int} (T : Tb t hs) {h : Int} {K i j : Nat} (gapK : way t.mask h K ∉ t.place.toList) (hi : hs[i]? = some h) (hj : t.place.toList[i]? = some j) : ∃ c, c < K ∧ way t.mask h c = j := by
  obtain ⟨c, e, b⟩ := T.on _ (mem_zip_at hi hj)
  have e : way t.mask h c = j := e
  have b : ∀ c', c' < c → way t.mask h c' ∈ t.place.toList := b
  refine ⟨c, ?_, e⟩
  rcases Nat.lt_trichotomy c K with l | l | l
  · exact l
  · rw [← l, e] at gapK
    exact absurd (List.mem_of_getElem? hj) gapK
  · exact absurd (b K l) gapK
theorem Tb.put {t : SetTable} {hs : List Int} (T : Tb t hs) {h : Int} {K : Nat} (gapK : way t.mask h K ∉ t.place.toList) (hb : ∀ c, c < K → way t.mask h c ∈ t.place.toList) {p : Nat} (hp : SetTable.below t.place (way t.mask h K) = p) :
    p ≤ hs.length ∧ Tb (t.put (way t.mask h K)).1 (hs.take p ++ h :: hs.drop p) ∧ (t.put (way t.mask h K)).1.fill = hs.length + 1 := by
  have pl := put_place t (way t.mask h K)
  have dm := put_dm T.clean (way t.mask h K)
  have cut := (below_cut T.up (way t.mask h K)).1
  rw [hp] at pl cut
  have sz : t.place.size = hs.length := T.as
  have len : (t.put (way t.mask h K)).1.place.toList.length = hs.length + 1 := by
    rw [pl, len_ins _ (show p ≤ t.place.toList.length from cut), T.as]
  have grow : ∀ c, c ∈ t.place.toList → c ∈ (t.put (way t.mask h K)).1.place.toList := fun c hc => by
    rw [pl]
    exact mem_put.mpr (.inr hc)
  refine ⟨by omega, ⟨ris_insert T.up fun e => gapK (List.mem_of_getElem? (by rw [Array.getElem?_toList]; exact e)), dm, ?_, T.msk, fun j hj => ?_, fun e he => ?_⟩, ?_⟩
  · rw [len, len_ins _ (by omega)]
  · rw [pl] at hj
    rcases mem_put.mp hj with rfl | hj
    · exact way_top h K
    · exact T.top j hj
  · rw [pl] at he
    rcases zip_put T.as.symm he with rfl | he
    · exact ⟨K, rfl, fun c hc => grow _ (hb c hc)⟩
    · exact (T.on e he).mono grow
  · show (t.put (way t.mask h K)).1.place.toList.length + (t.put (way t.mask h K)).1.dummies.size = _
    rw [len, dm]
    rfl

/-! ### laid anew -/
theorem free_at {m : Nat} (hm : Msk m) (who : Array (Option Nat)) (h : Int) {j : Nat} (hj : j ≤ m) (hf : oAt who j = none) :
    ∃ K, SetTable.layClean.free m who (SetTable.turns m) (SetTable.bits h % (m + 1)) (SetTable.bits h) = some (way m h K) ∧ oAt who (way m h K) = none ∧ ∀ c, c < K → oAt who (way m h c) ≠ none := by
  obtain ⟨n, K, h1, h2, h3, h4⟩ := first_off hm (fun c => oAt who c ≠ none) h hj (fun z => z hf)
  have h3 := Classical.not_not.mp h3
  refine ⟨K, free_spec m who (SetTable.turns m) n _ _ K (by unfold SetTable.turns; omega) h2 (fun c hc => ?_) ?_, h3, h4⟩
  · have z := h4 c hc
    exact Option.isNone_eq_false_iff.mpr (Option.isSome_iff_ne_none.mpr z)
  · exact Option.isNone_iff_eq_none.mpr h3
theorem own_more {m : Nat} (hm : Msk m) {laid0 : List Int} {who : Array (Option Nat)} (W : Own m laid0 who) (hl : laid0.length ≤ m) (h : Int) :
    ∃ j, SetTable.layClean.free m who (SetTable.turns m) (SetTable.bits h % (m + 1)) (SetTable.bits h) = some j ∧ Own m (laid0 ++ [h]) (who.setIfInBounds j (some laid0.length)) := by
  obtain ⟨ps, hps, inPs⟩ := W.ps
  obtain ⟨j0, l0, n0⟩ := st_missing ps (m + 1) (by omega)
  have f0 : oAt who j0 = none := Classical.byContradiction fun z => n0 (inPs j0 (by omega) z)
  obtain ⟨K, e1, e2, e3⟩ := free_at hm who h (show j0 ≤ m by omega) f0
  generalize there : way m h K = s at e1 e2
  have sm : s ≤ m := there ▸ way_top h K
  have new := oAt_set_self (owner := who) (some laid0.length) (show s < who.size by rw [W.sz]; omega)
  have old : ∀ c, c ≠ s → oAt (who.setIfInBounds s (some laid0.length)) c = oAt who c := fun c hc => oAt_set_ne _ hc
  have stay : ∀ c, oAt who c ≠ none → oAt (who.setIfInBounds s (some laid0.length)) c ≠ none := fun c hc => by
    rw [old c (fun z => hc (by rw [z]; exact e2))]
    exact hc
  have ln : (laid0 ++ [h]).length = laid0.length + 1 := by
    rw [List.length_append]
    rfl
  refine ⟨s, e1, { sz := by rw [Array.size_setIfInBounds]; exact W.sz, at_ := fun j k hj e => ?_, all := fun k hk => ?_, ps := ⟨s :: ps, by rw [ln, ← hps]; rfl, fun j hj e => ?_⟩ }⟩
  · by_cases c : j = s
    · rw [c, new] at e
      cases e
      refine ⟨h, K, ?_, by rw [c]; exact there, fun c' hc' => stay _ (e3 c' hc')⟩
      rw [List.getElem?_append_right (Nat.le_refl _), Nat.sub_self]
      rfl
    · rw [old j c] at e
      obtain ⟨hash', steps', a1, a2, a3⟩ := W.at_ j k hj e
      refine ⟨hash', steps', ?_, a2, fun c' hc' => stay _ (a3 c' hc')⟩
      rw [List.getElem?_append_left (List.getElem?_eq_some_iff.mp a1).1]
      exact a1
  · rw [ln] at hk
    rcases Nat.lt_or_ge k laid0.length with l | l
    · obtain ⟨j, hj, e⟩ := W.all k l
      refine ⟨j, hj, ?_⟩
      rw [old j (fun z => by rw [z, e2] at e; cases e)]
      exact e
    · have isLast : k = laid0.length := by omega
      exact ⟨s, sm, by rw [new, isLast]⟩
  · by_cases c : j = s
    · rw [c]
      exact List.mem_cons_self ..
    · rw [old j c] at e
      exact List.mem_cons_of_mem _ (inPs j hj e)
theorem lay_all {m : Nat} (hm : Msk m) : ∀ (rest laid0 : List Int) (who : Array (Option Nat)), Own m laid0 who → laid0.length + rest.length ≤ m →
    ∃ who', rest.foldl (stepF m) (some (who, laid0.length)) = some (who', (laid0 ++ rest).length) ∧ Own m (laid0 ++ rest) who'
  | [], laid0, who, W, _ => ⟨who, by rw [List.append_nil, List.foldl_nil], by rw [List.append_nil]; exact W⟩
  | h :: rest, laid0, who, W, hl => by
    have hl : laid0.length + (rest.length + 1) ≤ m := hl
    obtain ⟨j, e, W1⟩ := own_more hm W (by omega) h
    have l1 : (laid0 ++ [h]).length = laid0.length + 1 := by
      rw [List.length_append]
      rfl
    obtain ⟨o2, f2, W2⟩ := lay_all hm rest (laid0 ++ [h]) _ W1 (by omega)
    have ea : (laid0 ++ [h]) ++ rest = laid0 ++ (h :: rest) := by
      rw [List.append_assoc]
      rfl
    rw [ea] at f2 W2
    refine ⟨o2, ?_, W2⟩
    rw [List.foldl_cons, stepF_some e, ← l1]
    exact f2
theorem lay_ok {m : Nat} (hm : Msk m) {hs : Array Int} (hn : hs.size ≤ m) : ∃ who, SetTable.layClean m hs = some who ∧ Own m hs.toList who := by
  obtain ⟨who, f, W⟩ := lay_all hm hs.toList [] _ (Own.init m) (by rw [Array.length_toList]; show 0 + hs.size ≤ m; omega)
  refine ⟨who, ?_, W⟩
  have f : List.foldl (stepF m) (some (Array.replicate (m + 1) none, 0)) hs.toList = some (who, ([] ++ hs.toList).length) := f
  rw [layClean_eq, f]
  rfl
theorem tb_anew (t : SetTable) {hs : Array Int} {wanted M : Nat} (there : SetTable.sizeAbove wanted - 1 = M) (hM : Msk M) (hn : hs.size ≤ M) :
    ∃ t' order, t.relaid hs wanted = some (t', order) ∧ order.toList.Perm (List.range hs.size) ∧ Tb t' (order.toList.map fun i => hs.getD i 0) ∧ t'.mask = M ∧ t'.led = t.led ∧ t'.plain = t.plain := by
  obtain ⟨who, e, W⟩ := lay_ok hM hn
  have live := ris_live (fun j => who.getD j none) (List.range (M + 1)) (List.pairwise_lt_range)
  have up : Ris ((liveOf M who).map (·.1)) := live.1
  have nd : ((liveOf M who).map (·.1)).Nodup := up.imp fun h => Nat.ne_of_lt h
  have hsz : hs.toList.length = hs.size := Array.length_toList
  have len : (liveOf M who).length = hs.size := by
    obtain ⟨ps, p1, p2⟩ := W.ps
    have most := nat_nodup_len ((liveOf M who).map (·.1)) ps nd fun x hx => by
      obtain ⟨⟨y, k⟩, hq, rfl⟩ := List.mem_map.mp hx
      obtain ⟨b1, b2⟩ := (mem_live W.sz).mp hq
      exact p2 y b1 (by rw [b2]; exact Option.some_ne_none k)
    have least := nat_nodup_len (List.range hs.size) ((liveOf M who).map (·.2)) List.nodup_range fun k hk => by
      obtain ⟨j, b1, b2⟩ := W.all k (by rw [hsz]; exact List.mem_range.mp hk)
      exact List.mem_map.mpr ⟨(j, k), (mem_live W.sz).mpr ⟨b1, b2⟩, rfl⟩
    rw [List.length_map] at most least
    rw [List.length_range] at least
    omega
  refine ⟨tabOf t M who, ((liveOf M who).map (·.2)).toArray, by rw [relaid_eq, there, e]; rfl, ?_, ⟨up, rfl, ?_, hM, fun j hj => ?_, fun q hq => ?_⟩, rfl, rfl, rfl⟩
  · refine perm_range hs.size _ (by show ((liveOf M who).map (·.2)).length = _; rw [List.length_map]; exact len) fun k hk => ?_
    obtain ⟨j, b1, b2⟩ := W.all k (by rw [hsz]; exact hk)
    exact List.mem_map.mpr ⟨(j, k), (mem_live W.sz).mpr ⟨b1, b2⟩, rfl⟩
  · show ((liveOf M who).map (·.1)).length = (((liveOf M who).map (·.2)).map _).length
    rw [List.length_map, List.length_map, List.length_map]
  · have hj : j ∈ (liveOf M who).map (·.1) := hj
    exact Nat.le_of_lt_succ (List.mem_range.mp (live.2 j hj))
  · have hq : q ∈ (((liveOf M who).map (·.2)).map fun i => hs.getD i 0).zip ((liveOf M who).map (·.1)) := hq
    rw [List.map_map, List.zip_map', List.mem_map] at hq
    obtain ⟨⟨j, k⟩, hm, rfl⟩ := hq
    obtain ⟨b1, b2⟩ := (mem_live W.sz).mp hm
    obtain ⟨h, K, a1, a2, a3⟩ := W.at_ j k b1 b2
    have eh : hs.getD k 0 = h := by
      rw [Array.getD_eq_getD_getElem?, ← Array.getElem?_toList, a1]
      rfl
    refine ⟨K, ?_, fun c hc => ?_⟩
    · show way M (hs.getD k 0) K = j
      rw [eh]
      exact a2
    · show way M (hs.getD k 0) c ∈ (liveOf M who).map (·.1)
      rw [eh]
      obtain ⟨k2, e2⟩ := Option.ne_none_iff_exists'.mp (a3 c hc)
      exact List.mem_map.mpr ⟨(way M h c, k2), (mem_live W.sz).mpr ⟨way_top h c, e2⟩, rfl⟩

/-! ### the set at its place -/
section
variable {P : Program} {w : World} {A : Around}
variable {E : Value → Shared → Prop} {s : Shared}
structure Sr (P : Program) (w : World) (h : Heap) (a : Addr) (L : List (Addr × List Int)) (es : Array (Int × Value)) (ep : Nat) (t : SetTable) : Prop where
  here : ∃ o, h.get? a = some o ∧ o.ExactSet ∧ o.data = .set es ep t
  row : es.toList = rowsOf P w L
  tab : Tb t (L.map fun p => thash P w p.2)
  nd : (L.map (·.2)).Nodup
  each : ∀ p ∈ L, IsT P w h p.2 p.1
  plain : t.plain = true
  lead : w.params.followText "set-order" = true ∨ t.led = true
  wide : L.length * 5 < t.mask * 3
variable {a : Addr} {L : List (Addr × List Int)} {es : Array (Int × Value)}
variable {ep : Nat} {t : SetTable}
theorem rows_size {es : Array (Int × Value)} {L : List (Addr × List Int)} (h : es.toList = rowsOf P w L) : es.size = L.length := by
  rw [← Array.length_toList, h]
  unfold rowsOf
  rw [List.length_map]
theorem place_size {t : SetTable} {L : List (Addr × List Int)} (T : Tb t (L.map fun p => thash P w p.2)) : t.place.size = L.length := by
  have h := T.as
  rw [List.length_map] at h
  exact h
theorem tab_fits {t : SetTable} {L : List (Addr × List Int)} (T : Tb t (L.map fun p => thash P w p.2)) (n : Nat) (hn : n = L.length) (hl : L.length ≤ t.mask) : t.fits n = true := by
  have h := place_size T
  have z : t.fill = L.length := by
    show t.place.size + t.dummies.size = _
    rw [T.clean, h]
    rfl
  unfold SetTable.fits
  rw [z, h, hn]
  simp [hl]
theorem Sr.small (R : Sr P w s.heap a L es ep t) : L.length ≤ t.mask ∧ L.length ≤ 306 := by
  have h := R.wide
  have m := R.tab.msk.cases
  omega
theorem Sr.fits (R : Sr P w s.heap a L es ep t) : t.fits es.size = true := tab_fits R.tab _ (rows_size R.row) R.small.1
theorem row_at {es : Array (Int × Value)} {L : List (Addr × List Int)} (h : es.toList = rowsOf P w L) {i : Nat} {p : Addr × List Int} (hp : L[i]? = some p) : es[i]? = some (thash P w p.2, Value.ref p.1) := by
  rw [← Array.getElem?_toList, h]
  unfold rowsOf
  rw [List.getElem?_map, hp]
  rfl
theorem not_away {t : SetTable} (hm : Msk t.mask) : ¬ t.gaveWay = true := by
  unfold SetTable.gaveWay
  rcases hm.cases with e | e | e | e <;> rw [e] <;> decide
theorem nth_dummy (m : Nat) : ∀ (n : Nat) (p : SetTable.Probe), p.dummy = none → (nth m p n).dummy = none
  | 0, _, h => h
  | n + 1, p, h => nth_dummy m n (adv m p) (by
    unfold adv
    split <;> exact h)
/-- where the way of a hash begins -/
abbrev st0 (m : Nat) (h : Int) : SetTable.Probe := runAt m (SetTable.bits h % (m + 1)) (SetTable.bits h)
theorem st0_add (m : Nat) (h : Int) (c q : Nat) : nth m (nth m (st0 m h) c) q = nth m (st0 m h) (c + q) := (nth_add m c (st0 m h) q).symm
/-- the search, from the c-th slot of the way on -/
theorem look_on (R : Sr P w s.heap a L es ep t) {x : Addr} {k : List Int} (hx : IsT P w s.heap k x) (hu : A.units < cLine) {K : Nat} (soon : K < 10 * SetTable.turns t.mask)
    (gapK : way t.mask (thash P w k) K ∉ t.place.toList) (taken : ∀ c, c < K → way t.mask (thash P w k) c ∈ t.place.toList) {Q : SetFound → Shared → Prop}
    (yes : k ∈ L.map (·.2) → Q (.there none) s) (no : k ∉ L.map (·.2) → Q (.free (way t.mask (thash P w k) K) false) s) :
    ∀ (f c : Nat) (stand : Option SetTable.Probe), stand.getD (t.probeStart (thash P w k)) = nth t.mask (st0 t.mask (thash P w k)) c → c ≤ K → K - c < f →
      (∀ (c' i : Nat) (p : Addr × List Int), c' < c → t.place.toList[i]? = some (way t.mask (thash P w k) c') → L[i]? = some p → p.2 ≠ k) →
      wpAny (model P w) A (setSearchFrom a (.ref x) (thash P w k) true f stand) Q E s
  | 0, _, _, _, _, hf, _ => absurd hf (Nat.not_lt_zero _)
  | f + 1, c, stand, hst, hc, hf, past => by
    obtain ⟨o, place0, exact0, dat0⟩ := R.here
    rw [setSearchFrom_succ]
    refine wpAny_bind (wpAny_setState_of place0 dat0 R.fits ?_)
    dsimp only
    refine wp_if_neg (not_away R.tab.msk) ?_
    have slot : ∀ q, (nth t.mask (nth t.mask (st0 t.mask (thash P w k)) c) q).j = way t.mask (thash P w k) (c + q) := fun q => congrArg SetTable.Probe.j (st0_add _ _ c q)
    have hash : ∀ (i : Nat) (p : Addr × List Int), L[i]? = some p → (es[i]?.map (·.1)).getD 0 = thash P w p.2 := fun i p hp => by rw [row_at R.row hp]; rfl
    have cK : c + (K - c) = K := Nat.add_sub_cancel' hc
    have far := go_spec t R.tab.up R.tab.clean (fun i => (es[i]?.map (·.1)).getD 0) (thash P w k) (10 * SetTable.turns t.mask) (K - c) (nth t.mask (st0 t.mask (thash P w k)) c) (nth_dummy _ c _ rfl) (by omega)
      (fun q hq => by rw [slot]; exact taken _ (by omega)) (by rw [slot, cK]; exact gapK)
    have probe_is : t.probe (fun i => (es[i]?.map (·.1)).getD 0) (thash P w k) (stand.getD (t.probeStart (thash P w k))) = SetTable.probe.go t (fun i => (es[i]?.map (·.1)).getD 0) (thash P w k) (10 * SetTable.turns t.mask) (nth t.mask (st0 t.mask (thash P w k)) c) := by
      rw [hst]
      rfl
    rcases far with ⟨q, i, hq, hi, hh, none, hgo⟩ | ⟨none, hgo⟩
    · rw [slot] at hi hgo
      rw [st0_add] at hgo
      rw [probe_is, hgo]
      dsimp only
      have il : i < L.length := by
        have z := (List.getElem?_eq_some_iff.mp hi).1
        have y := place_size R.tab
        rw [Array.length_toList] at z
        omega
      obtain ⟨p, hp⟩ : ∃ p, L[i]? = some p := ⟨L[i], List.getElem?_eq_getElem il⟩
      have pm : p ∈ L := List.mem_of_getElem? hp
      have live : t.slot (way t.mask (thash P w k) (c + q)) = .live i := slot_live R.tab.up hi
      have met : wpAny (model P w) A (searchRest a (.ref x) (thash P w k) true f es t (way t.mask (thash P w k) (c + q)) i (nth t.mask (st0 t.mask (thash P w k)) (c + (q + 1)))) Q E s := by
        unfold searchRest
        rw [row_at R.row hp]
        dsimp only
        refine wpAny_bind (wpAny_holding (wpAny_eqBool_tuple hu (R.each p pm) hx ?_))
        refine wpAny_bind (wpAny_setState_of place0 dat0 R.fits ?_)
        dsimp only
        by_cases same : p.2 = k
        · refine wp_if_pos (by rw [decide_eq_true same]; rfl) (wpAny_pure (yes ?_))
          exact List.mem_map.mpr ⟨p, pm, same⟩
        · have ne : decide (p.2 = k) = false := decide_eq_false same
          refine wp_if_neg (by rw [ne]; decide) ?_
          rw [sameMem]
          dsimp only
          rw [if_pos rfl, live]
          dsimp only
          rw [row_at R.row hp]
          dsimp only
          refine wpAny_bind (wpAny_isSame_ref_self (wpAny_bind (wpAny_pure ?_)))
          rw [if_pos rfl]
          dsimp only
          refine wp_if_neg (by rw [ne]; decide) ?_
          refine look_on R hx hu soon gapK taken yes no f (c + (q + 1)) _ rfl (by omega) (by omega) fun c' i' p' hc' hi' hp' => ?_
          rcases Nat.lt_trichotomy c' (c + q) with l | l | l
          · by_cases l2 : c' < c
            · exact past c' i' p' l2 hi' hp'
            · intro z
              refine none (c' - c) i' (by omega) (by rw [slot, Nat.add_sub_cancel' (Nat.le_of_not_lt l2)]; exact hi') ?_
              rw [hash i' p' hp', z]
          · rw [l] at hi'
            have live2 := slot_live R.tab.up hi'
            rw [live] at live2
            cases live2
            rw [hp] at hp'
            cases hp'
            exact same
          · omega
      by_cases hl : t.led = true
      · refine wp_if_neg (by rw [hl]; decide) ?_
        exact met
      · refine wp_if_pos (by rw [Bool.not_eq_true] at hl; rw [hl]; rfl) (wpAny_bind (seen_tup hx (fun y hy => ?_) (wp_if_neg (by decide) met)))
        obtain ⟨e, he, rfl⟩ := List.mem_map.mp hy
        have he2 : e ∈ es.toList := by
          rw [Array.mem_toList_iff] at he ⊢
          exact (Array.mem_filter.mp he).1
        rw [R.row] at he2
        obtain ⟨p2, hp2, rfl⟩ := List.mem_map.mp he2
        exact ⟨p2.2, p2.1, rfl, R.each p2 hp2⟩
    · rw [slot, cK] at hgo
      rw [probe_is, hgo]
      dsimp only
      refine wpAny_pure (no fun hm => ?_)
      obtain ⟨p, pm, pk⟩ := List.mem_map.mp hm
      obtain ⟨i, il, ie⟩ := List.getElem_of_mem pm
      have hp : L[i]? = some p := by rw [List.getElem?_eq_getElem il, ie]
      have hj : i < t.place.toList.length := by
        have y := place_size R.tab
        rw [Array.length_toList]
        omega
      obtain ⟨c', l, e⟩ := R.tab.ahead gapK (i := i) (by rw [List.getElem?_map, hp, ← pk]; rfl) (List.getElem?_eq_getElem hj)
      have hi : t.place.toList[i]? = some (way t.mask (thash P w k) c') := by rw [List.getElem?_eq_getElem hj, e]
      by_cases l2 : c' < c
      · exact past c' i p l2 hi hp pk
      · refine none (c' - c) i (by omega) (by rw [slot, Nat.add_sub_cancel' (Nat.le_of_not_lt l2)]; exact hi) ?_
        rw [hash i p hp, pk]
/-- the whole search, as adding asks it -/
theorem look (R : Sr P w s.heap a L es ep t) {x : Addr} {k : List Int} (hx : IsT P w s.heap k x) (hu : A.units < cLine) {Q : SetFound → Shared → Prop} (yes : k ∈ L.map (·.2) → Q (.there none) s)
    (no : ∀ K, k ∉ L.map (·.2) → way t.mask (thash P w k) K ∉ t.place.toList → (∀ c, c < K → way t.mask (thash P w k) c ∈ t.place.toList) → Q (.free (way t.mask (thash P w k) K) false) s) :
    wpAny (model P w) A (setSearch a (.ref x) (thash P w k) true) Q E s := by
  obtain ⟨K, soon, gapK, taken⟩ := R.tab.gap (by rw [List.length_map]; exact R.small.1) (thash P w k)
  have bound : 10 * SetTable.turns t.mask ≤ 5260 := by
    unfold SetTable.turns
    have m := R.tab.msk.cases
    omega
  unfold setSearch
  exact look_on R hx hu soon gapK taken yes (fun h => no K h gapK taken) 100000 0 none rfl (Nat.zero_le _) (by omega) fun c' _ _ hc' => absurd hc' (Nat.not_lt_zero c')
/-- laid anew, larger -/
theorem grow_at {o : Obj} (place0 : s.heap.get? a = some o) (exact0 : o.ExactSet) (dat0 : o.data = .set es ep t) (hr : es.toList = rowsOf P w L) (T : Tb t (L.map fun p => thash P w p.2)) (hl : L.length ≤ t.mask)
    (nd : (L.map (·.2)).Nodup) (tup : ∀ p ∈ L, IsT P w s.heap p.2 p.1) (pl : t.plain = true) (ld : w.params.followText "set-order" = true ∨ t.led = true) {wanted M : Nat} (there : SetTable.sizeAbove wanted = M + 1) (hM : Msk M) (room : L.length * 5 < M * 3)
    {Q : Unit → Shared → Prop} (hQ : ∀ h' L' es' ep' t', Heap.SameBut a s.heap h' → Sr P w h' a L' es' ep' t' → L'.Perm L → Q () { s with heap := h' }) : wpAny (model P w) A (setRelay a wanted) Q E s := by
  have sz := rows_size hr
  have M4 := hM.cases
  obtain ⟨t2, order, e, perm, T2, em, el, epl⟩ := tb_anew t (hs := es.map (·.1)) (wanted := wanted) (M := M) (by rw [there]; rfl) hM (by rw [Array.size_map, sz]; omega)
  rw [Array.size_map, sz] at perm
  obtain ⟨L2, r1, r2, r3⟩ := order_rows L es order hr perm
  rw [← r3] at T2
  have sz2 : (order.filterMap (es[·]?)).size = es.size := by rw [rows_size r1, r2.length_eq, sz]
  rw [setRelay_eq]
  refine wpAny_bind (wpAny_setState_of place0 dat0 (tab_fits T _ sz hl) ?_)
  dsimp only
  refine wp_if_neg (by rw [there, sizeLine_eq]; omega) ?_
  rw [e]
  dsimp only
  refine wpAny_bind (wp_if_neg (by rw [sz2]; simp) (wpAny_pure ?_))
  dsimp only
  have but0 : Heap.SameBut a s.heap (s.heap.update a (Obj.putSet (order.filterMap (es[·]?)) t2)) := Heap.SameBut.update ..
  refine wpAny_storeSet_of place0 dat0 (hQ _ L2 _ (ep + 1) t2 but0 ⟨⟨_, store_at place0 dat0, exact0, rfl⟩, r1, T2, (r2.map (·.2)).nodup_iff.mpr nd, fun p hp => isT_same (tup p (r2.mem_iff.mp hp)) place0 dat0 but0, epl.trans pl, by rw [el]; exact ld, by rw [r2.length_eq, em]; exact room⟩ r2) ?_
  rw [sz2, sz, sizeLine_eq]
  omega
theorem next_mask {m n : Nat} (hm : Msk m) (h1 : n * 5 < m * 3) (h2 : m * 3 ≤ (n + 1) * 5) (few : n < 300) : ∃ M, SetTable.sizeAbove (SetTable.grown (n + 1)) = M + 1 ∧ Msk M ∧ (n + 1) * 5 < M * 3 := by
  rcases hm.cases with rfl | rfl | rfl | rfl
  · obtain rfl : n = 4 := by omega
    exact ⟨31, by decide +kernel, .inl (.inr (.inl rfl)), by decide⟩
  · obtain rfl : n = 18 := by omega
    exact ⟨127, by decide +kernel, .inl (.inr (.inr rfl)), by decide⟩
  · obtain rfl : n = 76 := by omega
    exact ⟨511, by decide +kernel, .inr rfl, by decide⟩
  · omega
/-- one more put in -/
theorem add_one (R : Sr P w s.heap a L es ep t) {x : Addr} {k : List Int} (hx : IsT P w s.heap k x) (hu : A.units < cLine) (few : L.length < 300) {Q : Bool → Shared → Prop}
    (hQ : ∀ b h' L' es' ep' t', Heap.SameBut a s.heap h' → Sr P w h' a L' es' ep' t' → (k ∈ L.map (·.2) → L' = L) → (k ∉ L.map (·.2) → L'.Perm ((x, k) :: L)) → Q b { s with heap := h' }) :
    wpAny (model P w) A (setAddHashed a (.ref x) (thash P w k)) Q E s := by
  obtain ⟨o, place0, exact0, dat0⟩ := R.here
  have sz := rows_size R.row
  have mask := R.tab.msk.cases
  unfold setAddHashed
  refine wpAny_holding ?_
  rw [show 100000 = 99999 + 1 from rfl]
  rw [setAddHashedIn_succ]
  refine wpAny_bind (wpAny_setState_of place0 dat0 R.fits ?_)
  dsimp only
  refine wp_if_neg (by simp [byScan, Value.scannable]) (wpAny_bind (look R hx hu (fun hm => ?_) fun K hm gapK hb => ?_))
  · dsimp only
    exact wpAny_pure (hQ false s.heap L es ep t (.refl a s.heap) R (fun _ => rfl) (fun z => absurd hm z))
  · dsimp only
    refine wpAny_bind (wpAny_setState_of place0 dat0 R.fits ?_)
    dsimp only
    obtain ⟨p, hp⟩ : ∃ p, SetTable.below t.place (way t.mask (thash P w k) K) = p := ⟨_, rfl⟩
    obtain ⟨pl, T1, fill⟩ := R.tab.put gapK hb hp
    have second : (t.put (way t.mask (thash P w k) K)).2 = p := hp
    have mask1 : (t.put (way t.mask (thash P w k) K)).1.mask = t.mask := rfl
    have plain1 : (t.put (way t.mask (thash P w k) K)).1.plain = true := R.plain
    have led1 : w.params.followText "set-order" = true ∨ (t.put (way t.mask (thash P w k) K)).1.led = true := R.lead
    generalize t.put (way t.mask (thash P w k) K) = pt at T1 fill second mask1 plain1 led1 ⊢
    obtain ⟨t1, p'⟩ := pt
    dsimp only at T1 fill second mask1 plain1 led1 ⊢
    subst second
    refine wp_if_pos plain1 (wpAny_bind (hashBy_tup hx ?_))
    simp only [if_true]
    have row1 : (SetTable.insertAt es p' (thash P w k, Value.ref x)).toList = rowsOf P w (L.take p' ++ (x, k) :: L.drop p') := by
      rw [SetTable.toList_insertAt, rows_put, R.row]
    have pm := put_perm L p' (x, k)
    have hh : (L.take p' ++ (x, k) :: L.drop p').map (fun p => thash P w p.2) = (L.map fun p => thash P w p.2).take p' ++ thash P w k :: (L.map fun p => thash P w p.2).drop p' := by
      rw [List.map_append, List.map_cons, List.map_take, List.map_drop]
    rw [← hh] at T1
    have nd1 : ((L.take p' ++ (x, k) :: L.drop p').map (·.2)).Nodup := (pm.map (·.2)).nodup_iff.mpr (List.nodup_cons.mpr ⟨hm, R.nd⟩)
    generalize L.take p' ++ (x, k) :: L.drop p' = L1 at pm T1 nd1 row1
    generalize SetTable.insertAt es p' (thash P w k, Value.ref x) = es1 at row1 ⊢
    have len1 : L1.length = L.length + 1 := pm.length_eq
    have sz1 := rows_size row1
    refine wpAny_bind (wpAny_storeSet_of place0 dat0 ?_ (by rw [sz1, sizeLine_eq]; omega))
    have but0 : Heap.SameBut a s.heap (s.heap.update a (Obj.putSet es1 t1)) := Heap.SameBut.update ..
    have place1 := store_at (es' := es1) (t' := t1) place0 dat0
    generalize s.heap.update a (Obj.putSet es1 t1) = h1 at but0 place1 ⊢
    have each1 : ∀ p ∈ L1, IsT P w h1 p.2 p.1 := fun p hp => by
      rcases List.mem_cons.mp (pm.mem_iff.mp hp) with rfl | hp
      · exact isT_same hx place0 dat0 but0
      · exact isT_same (R.each p hp) place0 dat0 but0
    rw [List.length_map] at fill
    by_cases full : t1.tooFull = true
    · have full2 : t.mask * 3 ≤ (L.length + 1) * 5 := by
        have z := full
        unfold SetTable.tooFull at z
        rw [decide_eq_true_eq, fill, mask1] at z
        exact z
      obtain ⟨M, g1, g2, g3⟩ := next_mask R.tab.msk R.wide full2 few
      refine wp_if_pos (by rw [full]; rfl) (wpAny_bind ?_)
      rw [sz]
      refine grow_at (s := { s with heap := h1 }) place1 exact0 rfl row1 T1 (by have z := R.wide; rw [len1, mask1]; omega) nd1 each1 plain1 led1 g1 g2 (by rw [len1]; exact g3) fun h2 L2 es2 ep2 t2 but2 R2 pm2 => ?_
      exact wpAny_pure (hQ true h2 L2 es2 ep2 t2 (but0.trans but2) R2 (fun z => absurd z hm) fun _ => pm2.trans pm)
    · have room1 : L1.length * 5 < t1.mask * 3 := by
        have z := full
        unfold SetTable.tooFull at z
        rw [decide_eq_true_eq, fill] at z
        rw [len1]
        omega
      rw [Bool.not_eq_true] at full
      refine wp_if_neg (by rw [full]; decide) (wpAny_pure ?_)
      exact hQ true h1 L1 es1 (ep + 1) t1 but0 ⟨⟨_, place1, exact0, rfl⟩, row1, T1, nd1, each1, plain1, led1, room1⟩ (fun z => absurd z hm) fun _ => pm

/-! ### filled from a list -/
/-- the set at S holds what the first i of ks are -/
def Held (P : Program) (w : World) (h : Heap) (S : Addr) (ks : List (Addr × List Int)) (i : Nat) : Prop := ∃ L es ep t, Sr P w h S L es ep t ∧ Got ks i L
theorem Held.keep {h h' : Heap} {S : Addr} {ks : List (Addr × List Int)} {i : Nat} (x : Held P w h S ks i) (hS : ∀ o, h.get? S = some o → h'.get? S = some o) (hk : ∀ p ∈ ks, IsT P w h' p.2 p.1) : Held P w h' S ks i := by
  obtain ⟨L, es, ep, t, R, g⟩ := x
  obtain ⟨o, place0, r⟩ := R.here
  exact ⟨L, es, ep, t, { R with here := ⟨o, hS o place0, r⟩, each := fun p hp => hk p (List.mem_of_mem_take (g.sub p hp)) }, g⟩
theorem Held.new {h : Heap} {S : Addr} (ks : List (Addr × List Int)) (place0 : h.get? S = some { cls := .type "set", dict := none, data := .set #[] 0 (.fresh 0 0 (!w.params.followText "set-order")) }) : Held P w h S ks 0 := by
  refine ⟨[], #[], 0, .fresh 0 0 (!w.params.followText "set-order"), ⟨⟨_, place0, ⟨rfl, rfl, rfl⟩, rfl⟩, rfl, ⟨List.Pairwise.nil, rfl, rfl, .inl (.inl rfl), fun _ hj => ?_, fun _ he => ?_⟩, List.nodup_nil, fun _ hp => ?_, rfl, ?_, by show 0 * 5 < 7 * 3; decide⟩, Got.zero ks⟩
  · cases hj
  · cases he
  · cases hp
  · show _ ∨ (!w.params.followText "set-order") = true
    cases w.params.followText "set-order" <;> simp
/-- one of ks more -/
theorem Held.add {S : Addr} {ks : List (Addr × List Int)} {i : Nat} {x : Addr × List Int} (X : Held P w s.heap S ks i) (hx : ks[i]? = some x) (tx : IsT P w s.heap x.2 x.1) (hi : i < 300) (hu : A.units < cLine) {Q : Bool → Shared → Prop}
    (hQ : ∀ b h', Heap.SameBut S s.heap h' → Held P w h' S ks (i + 1) → Q b { s with heap := h' }) : wpAny (model P w) A (setAddHashed S (.ref x.1) (thash P w x.2)) Q E s := by
  obtain ⟨L, es, ep, t, R, g⟩ := X
  refine add_one R tx hu (Nat.lt_of_le_of_lt g.len hi) fun b h' L' es' ep' t' but0 R' same more => hQ b h' but0 ⟨L', es', ep', t', R', ?_⟩
  by_cases c : x.2 ∈ L.map (·.2)
  · rw [same c]
    exact g.same hx c
  · exact g.more hx (more c)
/-- the loop that fills it: s0 is where it began -/
theorem fill_loop {I : Addr} {fp wr : List Addr} {G : Array GenState → Array GenState → Prop} {n : Nat} {Pv : Nat → Value → Prop} {St : Nat → Shared → Prop} {Z : Result → Shared → Prop} (W : WalksS P w A.in1 I fp wr G n Pv St) {S : Addr} (off : S ∉ fp)
    {ks : List (Addr × List Int)} (hn : n = ks.length) (few : ks.length ≤ 300) (val : ∀ i v, Pv i v → ∃ p, ks[i]? = some p ∧ v = .ref p.1) (hu : A.in1.units < cLine) (s0 : Shared) (frozen : ∀ s', Moved (S :: wr) G s0 s' → ∀ p ∈ ks, IsT P w s'.heap p.2 p.1)
    (out : ∀ s', Moved (S :: wr) G s0 s' → Held P w s'.heap S ks n → Z (.ok (.ret .none)) s') :
    ∀ (left i : Nat) (s : Shared), n - i = left → i ≤ n → St i s → Moved (S :: wr) G s0 s → Held P w s.heap S ks i → codeAny (model P w) A (.builtin "set.update.loop" ⟨[.ref S, .ref I], []⟩) Z s := by
  have offw : S ∉ wr := fun z => off (W.sub S z)
  have wider : ∀ b ∈ wr, b ∈ S :: wr := fun b hb => List.mem_cons_of_mem S hb
  intro left
  induction left with
  | zero =>
    intro i s hl hi st mv X
    obtain rfl : i = n := by omega
    refine codeAny_builtin F.entry_set_update_loop ?_
    rw [Around.under_plainId F.plain_set_update_loop]
    refine wpAny_bind (W.done s _ _ st fun s' m => wpAny_pure ?_)
    have mv' := Moved.trans W.gtrans mv (m.mono wider)
    exact out s' mv' (X.keep (fun o e => m.heap S o offw e) (frozen s' mv'))
  | succ left ih =>
    intro i s hl hi st mv X
    refine codeAny_builtin F.entry_set_update_loop ?_
    rw [Around.under_plainId F.plain_set_update_loop]
    refine wpAny_bind (W.item i s _ _ (by omega) st fun v s' hv st' m => ?_)
    obtain ⟨p, hp, rfl⟩ := val i v hv
    have mv' := Moved.trans W.gtrans mv (m.mono wider)
    have X' := X.keep (fun o e => m.heap S o offw e) (frozen s' mv')
    have tp := frozen s' mv' p (List.mem_of_getElem? hp)
    refine wpAny_bind (wpAny_holding ?_)
    unfold setAdd
    refine wpAny_holding (wpAny_bind (wpAny_pyHash_tuple hu tp ?_))
    refine Held.add (s := { s' with toks := s'.toks + (p.2.length + 1) }) X' hp tp (by omega) hu fun b h' but0 X2 => wpAny_pure ⟨plainId_quiet F.plain_set_update_loop _, ?_⟩
    have still : ∀ c o, c ≠ S → s'.heap.get? c = some o → h'.get? c = some o := fun c o hc e => (but0.2 c hc).trans e
    refine ih (i + 1) _ (by omega) (by omega) (W.frame _ s' _ _ st' (Nat.le_add_right _ _) fun c hc o e => still c o (fun z => off (z ▸ hc)) e) ?_ X2
    exact mv'.then_heap (Nat.le_add_right _ _) fun c o hc e => still c o (fun z => hc (z ▸ List.mem_cons_self ..)) e

/-! ### set(xs) -/
/-- a set as it is made -/
abbrev bare (w : World) : Obj := { cls := .type "set", dict := none, data := .set #[] 0 (.fresh 0 0 (!w.params.followText "set-order")) }
theorem past_end {h : Heap} {b : Addr} (hb : h.objs.size ≤ b) : h.get? b = none := by
  cases e : h.get? b with
  | none => rfl
  | some o => exact absurd (Nat.lt_of_lt_of_le (Heap.lt_size e) hb) (Nat.lt_irrefl _)
/-- what making and filling it leaves -/
def Filled (P : Program) (w : World) (s s' : Shared) (ks : List (Addr × List Int)) : Prop :=
  ∃ h' tk, s' = { s with heap := h', toks := tk } ∧ (∀ b o, s.heap.get? b = some o → h'.get? b = some o) ∧ Held P w h' s.heap.objs.size ks ks.length
set_option maxHeartbeats 3200000 in
theorem set_call {l : Addr} {items : Array Value} {ks : List (Addr × List Int)} {Q : Value → Shared → Prop} (hh : A.handled = none) (hl : s.heap.IsList l items) (hit : items.toList = ks.map fun p => Value.ref p.1) (hk : ∀ p ∈ ks, IsT P w s.heap p.2 p.1) (few : ks.length ≤ 300) (hu : A.units + 3 < cLine)
    (h : ∀ s', Filled P w s s' ks → Q (.ref s.heap.objs.size) s') : wpAny (model P w) A (call (.type "set") [.ref l]) Q E s := by
  obtain ⟨_, _, mro⟩ := F.called_set.mro
  have made := F.called_set.made
  have isSub := F.called_set.sub
  have noType := F.called_set.notType
  have canMake := F.called_set.canCreate
  have argOk := F.typeCall_set_1 (.ref l)
  refine wpAny_call (codeAny_of_tree (wpAny_pure ⟨Code.quiet_builtin _ (by decide +kernel), codeAny_builtin F.entry_type_call ?_⟩))
  rw [Around.under_plain (weight_type_call_type "set" [.ref l] []) rfl]
  repeat (any_goals (first | assumption | wp_step))
  refine codeAny_mono (code_set_led1 (.ref l) (E := E) (Q₁ := fun v s1 => v = .ref s.heap.objs.size ∧ s1 = { s with heap := s.heap.push (bare w) }) ⟨rfl, rfl⟩) fun r s1 hr => ?_
  match r, hr with
  | .error e, hr => exact hr
  | .ok (.ret v), ⟨ev, es⟩ =>
    subst ev es
    have initIs := F.called_set.init.lookup
    have bound := F.called_set.init.bind (.ref s.heap.objs.size)
    have S0 : (s.heap.push (bare w)).get? s.heap.objs.size = some (bare w) := Heap.get?_push_size _ rfl
    have kind : Shared.TypeIs { s with heap := s.heap.push (bare w) } (.ref s.heap.objs.size) "set" := ⟨_, S0, rfl⟩
    repeat (any_goals (first | assumption | wp_step))
    refine codeAny_mono (codeAny_call_builtin (R := wants (fun r s2 => r = .none ∧ Filled P w s s2 ks) E) F.called_set.init.plain F.entry_set_init (check_set_init_1 kind ?_)) fun r2 s2 hr2 => ?_
    · obtain ⟨ol, hol, hcl, nl, hdl⟩ := id hl
      obtain ⟨ocls, odict, odata, oslots⟩ := ol
      dsimp only at hcl hdl
      subst hcl hdl
      have hol1 := Heap.get?_push_of_some (bare w) hol
      have l1 : (s.heap.push (bare w)).IsList l items := ⟨_, hol1, rfl, nl, rfl⟩
      have sub1 := F.sub_list_set
      have sub2 := F.sub_list_frozenset
      have noDict : (Value.type "list" == Value.type "dict") = false := by decide
      unfold Builtin.«set.__init__» noKeywords Builtin.Frozenset.updateFrom
      generalize hit0 : pyIter = PI
      wp_walk
      subst hit0
      refine wpAny_pyIter_list l1 (wpAny_bind (wpAny_runValue ?_))
      have lS : l < s.heap.objs.size := Heap.lt_size hol
      have quiet : A.in1.in1.in1.handled = none := by simp [hh]
      have sz1 : (s.heap.push (bare w)).objs.size = s.heap.objs.size + 1 := Heap.size_push ..
      have notI : l ≠ (s.heap.push (bare w)).objs.size := Nat.ne_of_lt (by rw [sz1]; exact Nat.lt_succ_of_lt lS)
      have lens : items.size = ks.length := by rw [← Array.length_toList, hit, List.length_map]
      have old : ∀ b o, s.heap.get? b = some o → b ∉ [s.heap.objs.size, (s.heap.push (bare w)).objs.size] := fun b o e z => by
        have lt : b < s.heap.objs.size := Heap.lt_size e
        rcases List.mem_cons.mp z with z | z
        · exact Nat.ne_of_lt lt z
        · exact Nat.ne_of_lt (Nat.lt_succ_of_lt lt) ((List.mem_singleton.mp z).trans sz1)
      refine fill_loop (Walks.list quiet _ l notI items).toS (S := s.heap.objs.size) (fun z => ?_) lens few (fun i v hv => ?_) hu _ (fun s' m p hp => isT_keep (hk p hp) fun b o e => m.heap b o (old b o e) (Heap.get?_push_of_some _ (Heap.get?_push_of_some _ e))) (fun s' m X => ?_) items.size 0 _ rfl (Nat.zero_le _)
        ⟨⟨_, Heap.get?_push_size _ rfl, rfl, rfl⟩, l1.push _⟩ (Moved.refl fun _ => rfl) (Held.new ks (Heap.get?_push_of_some _ S0))
      · rcases List.mem_cons.mp z with z | z
        · exact Nat.ne_of_lt (Nat.lt_succ_self s.heap.objs.size) (z.trans sz1)
        · exact Nat.ne_of_gt lS (List.mem_singleton.mp z)
      · have e : items.toList[i]? = some v := by rw [Array.getElem?_toList]; exact hv
        rw [hit, List.getElem?_map] at e
        obtain ⟨p, hp, rfl⟩ := Option.map_eq_some_iff.mp e
        exact ⟨p, hp, rfl⟩
      · rw [lens] at X
        refine wpAny_pure (wpAny_pure ⟨rfl, s'.heap, s'.toks, ?_, fun b o e => m.heap b o (old b o e) (Heap.get?_push_of_some _ (Heap.get?_push_of_some _ e)), X⟩)
        have g := m.gens
        have d := m.drawn
        have o := m.os
        cases s'
        dsimp only at g d o ⊢
        rw [g, d, o]
    · match r2, hr2 with
      | .error e, hr2 => exact hr2
      | .ok (.ret v), ⟨ev, fl⟩ =>
        subst ev
        obtain ⟨h', tk, rfl, k, X⟩ := id fl
        repeat (any_goals (first | assumption | wp_step))
        exact h _ fl
end
end BS

set_option Elab.async false
set_option linter.all false
set_option maxRecDepth 100000
/-! min of a list of tuples of whole numbers. -/
namespace MT
open PySem PySem.Spec PyProof.Rows L2

/-! ### the order of tuples -/
theorem lex_irrefl : ∀ a : List Int, HT.lexLt a a = false
  | [] => rfl
  | x :: a => by
    rw [HT.lexLt_cons, if_pos rfl]
    exact lex_irrefl a
theorem lex_trans : ∀ {a b c : List Int}, HT.lexLt a b = true → HT.lexLt b c = true → HT.lexLt a c = true
  | [], [], _, h, _ => by cases h
  | _, _ :: _, [], _, h => by cases h
  | [], _ :: _, _ :: _, _, _ => rfl
  | _ :: _, [], _, h, _ => by cases h
  | x :: a, y :: b, z :: c, h1, h2 => by
    rw [HT.lexLt_cons] at h1 h2 ⊢
    by_cases e1 : x = y
    · rw [if_pos e1] at h1
      by_cases e2 : y = z
      · rw [if_pos e2] at h2
        rw [if_pos (e1.trans e2)]
        exact lex_trans h1 h2
      · rw [if_neg e2] at h2
        rw [if_neg (fun w => e2 (e1 ▸ w)), e1]
        exact h2
    · rw [if_neg e1, decide_eq_true_iff] at h1
      by_cases e2 : y = z
      · rw [if_neg (by omega), decide_eq_true_iff]
        omega
      · rw [if_neg e2, decide_eq_true_iff] at h2
        rw [if_neg (by omega), decide_eq_true_iff]
        omega
/-- none of the first i is less than p, which is one of them -/
def Best (ks : List (Addr × List Int)) (i : Nat) (p : Addr × List Int) : Prop := p ∈ ks.take i ∧ ∀ q ∈ ks.take i, HT.lexLt q.2 p.2 = false
theorem Best.first {ks : List (Addr × List Int)} {p : Addr × List Int} (h : ks[0]? = some p) : Best ks 1 p := by
  have e : ks.take 1 = [p] := by
    rw [take_next h]
    rfl
  refine ⟨by rw [e]; exact List.mem_singleton.mpr rfl, fun q hq => ?_⟩
  rw [e, List.mem_singleton] at hq
  rw [hq]
  exact lex_irrefl _
theorem Best.next {ks : List (Addr × List Int)} {i : Nat} {p v : Addr × List Int} (b : Best ks i p) (h : ks[i]? = some v) : Best ks (i + 1) (if HT.lexLt v.2 p.2 = true then v else p) := by
  unfold Best
  rw [take_next h]
  cases c : HT.lexLt v.2 p.2 with
  | true =>
    rw [if_pos rfl]
    refine ⟨List.mem_append_right _ (List.mem_singleton.mpr rfl), fun q hq => ?_⟩
    rcases List.mem_append.mp hq with hq | hq
    · rw [← Bool.not_eq_true]
      intro z
      have y := lex_trans z c
      rw [b.2 q hq] at y
      cases y
    · rw [List.mem_singleton.mp hq]
      exact lex_irrefl _
  | false =>
    rw [if_neg (by decide)]
    refine ⟨List.mem_append_left _ b.1, fun q hq => ?_⟩
    rcases List.mem_append.mp hq with hq | hq
    · exact b.2 q hq
    · rw [List.mem_singleton.mp hq]
      exact c

/-! ### the loop -/
section
variable {P : Program} {w : World} {A : Around} {E : Value → Shared → Prop} {s : Shared}
/-- the tuple at p has these whole numbers -/
def TupAt (h : Heap) (p : Addr × List Int) : Prop := ∃ items, IsTup h p.1 items ∧ IntsAre items.toList p.2
theorem less {p q : Addr × List Int} (hp : TupAt s.heap p) (hq : TupAt s.heap q) (hu : A.units < cLine) {Q : Value → Shared → Prop} (h : Q (.bool (HT.lexLt p.2 q.2)) s) : wpAny (model P w) A (richCompare .Lt (.ref p.1) (.ref q.1)) Q E s := by
  obtain ⟨i1, a1, b1⟩ := hp
  obtain ⟨i2, a2, b2⟩ := hq
  exact HT.lt_tupInts a1 a2 b1 b2 hu h
/-- where the least so far is kept -/
abbrev cellOf (v : Value) (c : Nat) : Obj := { cls := .type "list", dict := none, data := .seq #[v, v] c, slots := #[] }
theorem min_on {I : Addr} {fp wr : List Addr} {G : Array GenState → Array GenState → Prop} {n : Nat} {Pv : Nat → Value → Prop} {St : Nat → Shared → Prop} {Z : Result → Shared → Prop} (W : WalksS P w A.in1 I fp wr G n Pv St) {S : Addr} (off : S ∉ fp)
    {ks : List (Addr × List Int)} (val : ∀ i v, Pv i v → ∃ p, ks[i]? = some p ∧ v = .ref p.1) (hu : A.in1.units < cLine) (s0 : Shared) (frozen : ∀ s', Moved (S :: wr) G s0 s' → ∀ p ∈ ks, TupAt s'.heap p)
    (out : ∀ s' p, Moved (S :: wr) G s0 s' → Best ks n p → Z (.ok (.ret (.ref p.1))) s') :
    ∀ (left j : Nat) (s : Shared) (p : Addr × List Int) (c : Nat), n - j = left → j ≤ n → St j s → Moved (S :: wr) G s0 s → s.heap.get? S = some (cellOf (.ref p.1) c) → Best ks j p →
      codeAny (model P w) A (.builtin "min.loop" ⟨[.ref I, .none, .ref S], []⟩) Z s := by
  have offw : S ∉ wr := fun z => off (W.sub S z)
  have wider : ∀ b ∈ wr, b ∈ S :: wr := fun b hb => List.mem_cons_of_mem S hb
  have again : (toString "min" ++ toString ".loop" : String) = "min.loop" := by decide
  intro left
  induction left with
  | zero =>
    intro j s p c hl hj st mv cell b
    obtain rfl : j = n := by omega
    refine codeAny_builtin F.entry_min_loop ?_
    rw [Around.under_plainId F.plain_min_loop]
    refine wpAny_bind (wpAny_seqItems cell rfl (wpAny_bind (wpAny_tryCatch (W.done s _ _ st fun s' m => ?_))))
    have cell' := m.heap S _ offw cell
    refine wpAny_bind (wpAny_updateSeq cell' rfl (wpAny_bind (wpAny_letGo (wpAny_pure ?_))))
    refine out _ p ?_ b
    exact (Moved.trans W.gtrans mv (m.mono wider)).then_heap (Nat.le_refl _) fun d o hd e => (Heap.get?_update_other _ _ (fun z : S = d => hd (z ▸ List.mem_cons_self ..))).trans e
  | succ left ih =>
    intro j s p c hl hj st mv cell b
    refine codeAny_builtin F.entry_min_loop ?_
    rw [Around.under_plainId F.plain_min_loop]
    refine wpAny_bind (wpAny_seqItems cell rfl (wpAny_bind (wpAny_tryCatch (W.item j s _ _ (by omega) st fun v s' hv st' m => ?_))))
    obtain ⟨q, hq, rfl⟩ := val j v hv
    have mv' := Moved.trans W.gtrans mv (m.mono wider)
    have cell' := m.heap S _ offw cell
    have tq := frozen s' mv' q (List.mem_of_getElem? hq)
    have tp := frozen s' mv' p (List.mem_of_mem_take b.1)
    have b' := b.next hq
    refine wpAny_bind (wpAny_pure (wpAny_bind (wpAny_tryCatch (wpAny_holding (wpAny_bind (less tq tp hu ?_))))))
    refine wpAny_bind (wpAny_holding (wpAny_truthy_bool (wpAny_bind (wpAny_letGo (wpAny_pure ?_)))))
    cases hb : HT.lexLt q.2 p.2 with
    | true =>
      rw [hb, if_pos rfl] at b'
      simp only [if_true]
      refine wpAny_bind (wpAny_updateSeq cell' rfl (wpAny_bind (wpAny_letGo ?_)))
      rw [again]
      refine wpAny_pure ⟨plainId_quiet F.plain_min_loop _, ih (j + 1) _ q _ (by omega) (by omega) (W.frame _ s' _ _ st' (Nat.le_refl _) fun d hd o e => (Heap.get?_update_other _ _ (fun z : S = d => off (z ▸ hd))).trans e) ?_ (Heap.get?_update_self _ cell' rfl) b'⟩
      exact mv'.then_heap (Nat.le_refl _) fun d o hd e => (Heap.get?_update_other _ _ (fun z : S = d => hd (z ▸ List.mem_cons_self ..))).trans e
    | false =>
      rw [hb, if_neg (by decide)] at b'
      simp only [Bool.false_eq_true, if_false]
      refine wpAny_bind (wpAny_letGo ?_)
      rw [again]
      exact wpAny_pure ⟨plainId_quiet F.plain_min_loop _, ih (j + 1) _ p c (by omega) (by omega) st' mv' cell' b'⟩
/-- from the empty cell on -/
theorem min_first {I : Addr} {fp wr : List Addr} {G : Array GenState → Array GenState → Prop} {n : Nat} {Pv : Nat → Value → Prop} {St : Nat → Shared → Prop} {Z : Result → Shared → Prop} (W : WalksS P w A.in1 I fp wr G n Pv St) {S : Addr} (off : S ∉ fp)
    {ks : List (Addr × List Int)} (val : ∀ i v, Pv i v → ∃ p, ks[i]? = some p ∧ v = .ref p.1) (hu : A.in1.units < cLine) (pos : 0 < n) {s : Shared} (frozen : ∀ s', Moved (S :: wr) G s s' → ∀ p ∈ ks, TupAt s'.heap p) (st : St 0 s) {c : Nat}
    (cell : s.heap.get? S = some { cls := .type "list", dict := none, data := .seq #[] c, slots := #[] }) (out : ∀ s' p, Moved (S :: wr) G s s' → Best ks n p → Z (.ok (.ret (.ref p.1))) s') :
    codeAny (model P w) A (.builtin "min.loop" ⟨[.ref I, .none, .ref S], []⟩) Z s := by
  have offw : S ∉ wr := fun z => off (W.sub S z)
  have again : (toString "min" ++ toString ".loop" : String) = "min.loop" := by decide
  refine codeAny_builtin F.entry_min_loop ?_
  rw [Around.under_plainId F.plain_min_loop]
  refine wpAny_bind (wpAny_seqItems cell rfl (wpAny_bind (wpAny_tryCatch (W.item 0 s _ _ pos st fun v s' hv st' m => ?_))))
  obtain ⟨q, hq, rfl⟩ := val 0 v hv
  have cell' := m.heap S _ offw cell
  refine wpAny_bind (wpAny_pure (wpAny_bind (wpAny_updateSeq cell' rfl ?_)))
  rw [again]
  have mv' : Moved (S :: wr) G s s' := m.mono fun b hb => List.mem_cons_of_mem S hb
  refine wpAny_pure ⟨plainId_quiet F.plain_min_loop _, min_on W off val hu s frozen out (n - 1) 1 _ q _ rfl pos (W.frame _ s' _ _ st' (Nat.le_refl _) fun d hd o e => (Heap.get?_update_other _ _ (fun z : S = d => off (z ▸ hd))).trans e) ?_ (Heap.get?_update_self _ cell' rfl) (Best.first hq)⟩
  exact mv'.then_heap (Nat.le_refl _) fun d o hd e => (Heap.get?_update_other _ _ (fun z : S = d => hd (z ▸ List.mem_cons_self ..))).trans e
/-- min(xs) -/
theorem min_call {l : Addr} {items : Array Value} {ks : List (Addr × List Int)} {Q : Value → Shared → Prop} (hh : A.handled = none) (hl : s.heap.IsList l items) (hit : items.toList = ks.map fun p => Value.ref p.1) (hk : ∀ p ∈ ks, TupAt s.heap p) (pos : 0 < ks.length) (hu : A.units + 3 < cLine)
    (h : ∀ h' tk p, (∀ b o, s.heap.get? b = some o → h'.get? b = some o) → Best ks ks.length p → Q (.ref p.1) { s with heap := h', toks := tk }) : wpAny (model P w) A (call (.builtin "min") [.ref l]) Q E s := by
  have again : (toString "min" ++ toString ".loop" : String) = "min.loop" := by decide
  have lens : items.size = ks.length := by rw [← Array.length_toList, hit, List.length_map]
  have lS : l < s.heap.objs.size := by
    obtain ⟨o, ho, _⟩ := hl
    exact Heap.lt_size ho
  have quiet : A.in1.handled = none := by simp [hh]
  refine call_function_tree F.kind_min F.plain_min F.entry_min (F.args_min1 _) ?_
  refine wpAny_bind (m := Builtin.Builtins.bindParams "min" ["key", "default"] 0 ⟨[], []⟩) (wpAny_of_eq (a := [none, none]) rfl ?_)
  refine wpAny_bind (wpAny_pure (wpAny_bind (wpAny_pyIter_list hl (wpAny_bind (wpAny_newObj_type ?_)))))
  rw [again]
  generalize hI : ({ cls := .type "list_iterator", data := .fields #[.ref l, .int 0 0] } : Obj) = iter at *
  have sz1 : (s.heap.push iter).objs.size = s.heap.objs.size + 1 := Heap.size_push ..
  refine wpAny_pure ⟨plainId_quiet F.plain_min_loop _, ?_⟩
  have old : ∀ b o, s.heap.get? b = some o → b ∉ [(s.heap.push iter).objs.size, s.heap.objs.size] := fun b o e z => by
    have lt : b < s.heap.objs.size := Heap.lt_size e
    rcases List.mem_cons.mp z with z | z
    · exact Nat.ne_of_lt (Nat.lt_succ_of_lt lt) (z.trans sz1)
    · exact Nat.ne_of_lt lt (List.mem_singleton.mp z)
  have all : ∀ s', Moved [(s.heap.push iter).objs.size, s.heap.objs.size] (fun a b => b = a) { s with heap := (s.heap.push iter).push { cls := .type "list", dict := none, data := .seq #[] 0, slots := #[] } } s' → ∀ b o, s.heap.get? b = some o → s'.heap.get? b = some o := fun s' m b o e =>
    m.heap b o (old b o e) (Heap.get?_push_of_some _ (Heap.get?_push_of_some _ e))
  refine min_first (ks := ks) (Walks.list quiet s.heap.objs.size l (Nat.ne_of_lt lS) items).toS (S := (s.heap.push iter).objs.size) (fun z => ?_) (fun i v hv => ?_) (by show A.units + 1 < cLine; omega) (by rw [lens]; exact pos) (fun s' m p hp => ?_) ?_ (c := 0) ?_ (fun s' p m b => ?_)
  · rcases List.mem_cons.mp z with z | z
    · exact Nat.ne_of_gt (Nat.lt_succ_self s.heap.objs.size) (sz1.symm.trans z)
    · exact Nat.ne_of_gt (Nat.lt_succ_of_lt lS) (sz1.symm.trans (List.mem_singleton.mp z))
  · have e : items.toList[i]? = some v := by rw [Array.getElem?_toList]; exact hv
    rw [hit, List.getElem?_map] at e
    obtain ⟨p, hp, rfl⟩ := Option.map_eq_some_iff.mp e
    exact ⟨p, hp, rfl⟩
  · obtain ⟨its, ⟨o, ho, r⟩, b⟩ := hk p hp
    exact ⟨its, ⟨o, all s' m _ o ho, r⟩, b⟩
  · subst hI
    exact ⟨⟨_, Heap.get?_push_of_some _ (Heap.get?_push_size _ rfl), rfl, rfl⟩, (hl.push _).push _⟩
  · exact Heap.get?_push_size _ rfl
  · rw [lens] at b
    have z := h s'.heap s'.toks p (all s' m) b
    have g := m.gens
    have d := m.drawn
    have o := m.os
    cases s'
    dsimp only at g d o z ⊢
    rw [g, d, o]
    exact z
end
end MT

set_option Elab.async false
set_option linter.all false
set_option maxRecDepth 100000
/-! What a reading asks of len(set(xs)) and of min(xs), xs a list of tuples of whole numbers. -/
namespace TR
open PySem PySem.Spec PyProof.Rows L2
/-- the list at l stands for these tuples -/
structure TupsAt (K : PySem.W.Frag) (H : Hp) (l : Addr) (ks : List (Addr × List Int)) : Prop where
  at_ : SqL K H l (ks.map fun p => V.ref p.1)
  tup : ∀ p ∈ ks, SqT K H p.1 (p.2.map V.int)
section
variable {X : Cx} {pins : List (Addr × Obj)} {σ : L2.St} {H : Hp} {s : Shared}
theorem laid_list (I : Inv X pins σ H s) {l : Addr} {ks : List (Addr × List Int)} (h : TupsAt X.K H l ks) : ∃ items : Array Value, s.heap.IsList l items ∧ items.toList = ks.map fun p => Value.ref p.1 := by
  obtain ⟨its, rv, pl, _⟩ := I.list h.at_
  exact ⟨its.toArray, pl.isList, by simpa using refs_of_vals rv⟩
theorem laid_tup (I : Inv X pins σ H s) {p : Addr × List Int} (h : SqT X.K H p.1 (p.2.map V.int)) : MT.TupAt s.heap p := by
  obtain ⟨its, rv, ht, _⟩ := I.tuple h
  exact ⟨its.toArray, ht, by simpa using rv.ints⟩
/-- len(set(xs)): as many as there are different ones -/
def tLenSetB (K : PySem.W.Frag) (ta : TE) : TE := fun σ H Q => ta σ H fun x H1 => ∃ (l : Addr) (ks : List (Addr × List Int)), x = V.ref l ∧ TupsAt K H1 l ks ∧ ks.length ≤ 300 ∧ ∀ D : List (List Int), D.Nodup → (∀ k, k ∈ D ↔ ∃ p ∈ ks, p.2 = k) → Q (.int (D.length : Nat)) H1
theorem pe_lenSetB {a : Expr} {ta : TE} {p p2 q pos : Pos} (hc : X.calm = true) (hu : X.A.units + 64 < cLine) (hg : Gl X "len") (hm : X.mg "len" = none) (hg2 : Gl X "set") (hm2 : X.mg "set" = none) (ha : PE X a ta)
    (na : starEach [a] X.env = (false, eval a X.env) :: starEach [] X.env := by rfl) : PE X (.Call (.Name "len" p) [.Call (.Name "set" p2) [a] [] q] [] pos) (tLenSetB X.K ta) := by
  refine ⟨fun pins s σ H Q I h => Call_ (ld_blt I hg hm PySem.boot_len (PyProof.Rows.callWith_builtin1 (PyProof.Rows.args_cons ?_ rfl) rfl rfl))⟩
  refine Call_ (ld_blt I hg2 hm2 PyProof.Rows.boot_set (PyProof.Rows.callWith_type1 (PyProof.Rows.args_cons (thn (ha.run pins s σ H _ I h) fun v s1 ⟨x, H1, I1, r1, out⟩ => PyProof.Rows.args_nil ?_) na) na rfl))
  obtain ⟨l, ks, rfl, T, few, out⟩ := out
  cases r1
  obtain ⟨items, hl, hit⟩ := laid_list I1 T
  refine BS.set_call (I1.ok.hd hc) hl hit (fun p hp => I1.isT (T.tup p hp)) few (by omega) fun s2 fl => PyProof.Rows.args_nil ?_
  obtain ⟨h2, tk, rfl, keep, L, es, ep, t, R, g⟩ := fl
  obtain ⟨o, ho, hex, hd⟩ := R.here
  have sz := BS.rows_size R.row
  have small := R.small (s := { s1 with heap := h2, toks := tk })
  have I2 : Inv X pins σ H1 { s1 with heap := h2, toks := tk } := I1.kept keep
  have tk0 : ks.take ks.length = ks := List.take_length
  refine call_len_set ho hex hd (R.fits (s := { s1 with heap := h2, toks := tk })) (by omega) ⟨.int _, H1, I2.tok _, ⟨_, rfl⟩, ?_⟩
  have z := out (L.map (·.2)) R.nd fun k => ?_
  · rw [List.length_map, ← sz] at z
    exact z
  · constructor
    · intro hk
      obtain ⟨p, hp, e⟩ := List.mem_map.mp hk
      have m := g.sub p hp
      rw [tk0] at m
      exact ⟨p, m, e⟩
    · rintro ⟨p, hp, rfl⟩
      exact g.all p (by rw [tk0]; exact hp)
/-- min(xs): one of them that none is less than -/
def rMinT (K : PySem.W.Frag) : List V → Hp → VK → Prop := fun vs H Q => ∃ (l : Addr) (ks : List (Addr × List Int)), vs = [V.ref l] ∧ TupsAt K H l ks ∧ 0 < ks.length ∧ ∀ p, p ∈ ks → (∀ q ∈ ks, HT.lexLt q.2 p.2 = false) → Q (.ref p.1) H
theorem cr_minT (hu : X.A.units + 64 < cLine) (hc : X.calm = true) : CallR X (.builtin "min") (rMinT X.K) := by
  intro pins s σ H vs us Q I r h
  obtain ⟨l, ks, rfl, T, pos, out⟩ := h
  rw [Vals.ref1 r]
  obtain ⟨items, hl, hit⟩ := laid_list I T
  refine MT.min_call (I.ok.hd hc) hl hit (fun p hp => laid_tup I (T.tup p hp)) pos (by omega) fun h2 tk p keep b => ?_
  obtain ⟨m, b⟩ := b
  rw [List.take_length] at m b
  exact ⟨.ref p.1, H, I.kept keep, rfl, out p m b⟩
end
end TR

set_option maxHeartbeats 4000000
set_option Elab.async false
namespace CM
open Sa48 Sa48Neutral

/-! ### the place's colour: what is the same modulo n is the same -/
theorem at_mod {p : Pat} {x y x' y' : Int} (hx : x % (p.n : Int) = x' % (p.n : Int)) (hy : y % (p.n : Int) = y' % (p.n : Int)) : p.at_ x y = p.at_ x' y' := by
  unfold Pat.at_
  rw [hx, hy]

theorem mem_rg {n : Nat} {x : Int} : x ∈ rg n ↔ 0 ≤ x ∧ x < (n : Int) := by
  unfold rg
  rw [List.mem_map]
  constructor
  · rintro ⟨i, hi, rfl⟩
    have := List.mem_range.mp hi
    omega
  · rintro ⟨h0, h1⟩
    exact ⟨x.toNat, List.mem_range.mpr (by omega), by omega⟩

theorem emod_add_congr {a b c n : Int} (h : a % n = b % n) : (a + c) % n = (b + c) % n := by
  rw [Int.add_emod, h, ← Int.add_emod]
theorem emod_neg_congr {a b n : Int} (h : a % n = b % n) : (-a) % n = (-b) % n := by
  have h1 : n ∣ a - b := Int.dvd_of_emod_eq_zero (Int.emod_eq_emod_iff_emod_sub_eq_zero.mp h)
  refine Int.emod_eq_emod_iff_emod_sub_eq_zero.mpr ?_
  refine Int.emod_eq_zero_of_dvd ?_
  have e : -a - -b = -(a - b) := by omega
  rw [e]
  exact Int.dvd_neg.mpr h1

theorem turned_congr {a : Nat} {x y x' y' n : Int} (hx : x % n = x' % n) (hy : y % n = y' % n) :
    (turned a x y).1 % n = (turned a x' y').1 % n ∧ (turned a x y).2 % n = (turned a x' y').2 % n := by
  have nx := emod_neg_congr hx
  have ny := emod_neg_congr hy
  unfold turned
  repeat' split
  all_goals (first | exact ⟨hx, hy⟩ | exact ⟨ny, hx⟩ | exact ⟨nx, ny⟩ | exact ⟨hy, nx⟩ | exact ⟨nx, hy⟩ | exact ⟨hx, ny⟩ | exact ⟨hy, hx⟩ | exact ⟨ny, nx⟩)

theorem emod_self_congr (x n : Int) : (x % n) % n = x % n := Int.emod_emod_of_dvd x (Int.dvd_refl n)

/-- a symmetry of the square's places is one of all -/
theorem sym_iff {p : Pat} (hn : 0 < p.n) {a : Nat} {u v : Int} : sym p a u v = true ↔ ∀ x y : Int, p.at_ ((Move.mk a u v).takes x y).1 ((Move.mk a u v).takes x y).2 = p.at_ x y := by
  unfold sym
  rw [List.all_eq_true]
  constructor
  · intro h x y
    have hnz : (0 : Int) < (p.n : Int) := by omega
    have hx : x % (p.n : Int) ∈ rg p.n := mem_rg.mpr ⟨Int.emod_nonneg _ (by omega), Int.emod_lt_of_pos _ hnz⟩
    have hy : y % (p.n : Int) ∈ rg p.n := mem_rg.mpr ⟨Int.emod_nonneg _ (by omega), Int.emod_lt_of_pos _ hnz⟩
    have h1 := List.all_eq_true.mp (h _ hx) _ hy
    have h2 : p.at_ ((Move.mk a u v).takes (x % (p.n : Int)) (y % (p.n : Int))).1 ((Move.mk a u v).takes (x % (p.n : Int)) (y % (p.n : Int))).2 = p.at_ (x % (p.n : Int)) (y % (p.n : Int)) := eq_of_beq h1
    have h3 := turned_congr (a := a) (emod_self_congr x p.n) (emod_self_congr y p.n)
    have e1 : p.at_ ((Move.mk a u v).takes (x % (p.n : Int)) (y % (p.n : Int))).1 ((Move.mk a u v).takes (x % (p.n : Int)) (y % (p.n : Int))).2 = p.at_ ((Move.mk a u v).takes x y).1 ((Move.mk a u v).takes x y).2 :=
      at_mod (emod_add_congr h3.1) (emod_add_congr h3.2)
    have e2 : p.at_ (x % (p.n : Int)) (y % (p.n : Int)) = p.at_ x y := at_mod (emod_self_congr x p.n) (emod_self_congr y p.n)
    rw [← e1, ← e2]
    exact h2
  · intro h x _
    refine List.all_eq_true.mpr fun y _ => ?_
    exact beq_iff_eq.mpr (h x y)

/-! ### shifts -/
def S (p : Pat) (u v : Int) : Prop := ∀ x y : Int, p.at_ (x + u) (y + v) = p.at_ x y
theorem sym0 {p : Pat} (hn : 0 < p.n) {u v : Int} : sym p 0 u v = true ↔ S p u v := sym_iff hn
theorem S.add {p : Pat} {u v u' v' : Int} (h : S p u v) (h' : S p u' v') : S p (u + u') (v + v') := fun x y => by
  have e1 := h' (x + u) (y + v)
  have e2 := h x y
  rw [← Int.add_assoc, ← Int.add_assoc, e1, e2]
theorem S.neg {p : Pat} {u v : Int} (h : S p u v) : S p (-u) (-v) := fun x y => by
  have e := h (x + -u) (y + -v)
  have a1 : x + -u + u = x := by omega
  have a2 : y + -v + v = y := by omega
  rw [a1, a2] at e
  exact e.symm
theorem S.zero {p : Pat} : S p 0 0 := fun x y => by rw [Int.add_zero, Int.add_zero]
theorem S.nmul {p : Pat} {u v : Int} (h : S p u v) : ∀ k : Nat, S p ((k : Int) * u) ((k : Int) * v)
  | 0 => by
    have a : ((0 : Nat) : Int) * u = 0 := by simp
    have b : ((0 : Nat) : Int) * v = 0 := by simp
    rw [a, b]
    exact S.zero
  | k + 1 => by
    have a : ((k + 1 : Nat) : Int) * u = (k : Int) * u + u := by rw [Int.natCast_add, Int.add_mul]; simp
    have b : ((k + 1 : Nat) : Int) * v = (k : Int) * v + v := by rw [Int.natCast_add, Int.add_mul]; simp
    rw [a, b]
    exact (S.nmul h k).add h
theorem S.mul {p : Pat} {u v : Int} (h : S p u v) (k : Int) : S p (k * u) (k * v) := by
  rcases Int.le_total 0 k with hk | hk
  · have e := S.nmul h k.toNat
    rw [Int.toNat_of_nonneg hk] at e
    exact e
  · have e := (S.nmul h (-k).toNat).neg
    rw [Int.toNat_of_nonneg (by omega), Int.neg_mul, Int.neg_mul, Int.neg_neg, Int.neg_neg] at e
    exact e
theorem S.n0 (p : Pat) : S p (p.n : Int) 0 := fun x y => at_mod (by rw [Int.add_emod_right]) (by rw [Int.add_zero])
theorem S.n1 (p : Pat) : S p 0 (p.n : Int) := fun x y => at_mod (by rw [Int.add_zero]) (by rw [Int.add_emod_right])
theorem S.of_eq {p : Pat} {u v u' v' : Int} (h : S p u v) (e1 : u = u') (e2 : v = v') : S p u' v' := by
  subst e1 e2
  exact h

/-! ### the least ones -/
/-- e is the least above 0 with (e, 0) -/
structure Ea (p : Pat) (e : Nat) : Prop where
  pos : 0 < e
  is : S p (e : Int) 0
  least : ∀ k : Nat, 0 < k → k < e → ¬ S p (k : Int) 0
theorem Ea.dvd {p : Pat} {e : Nat} (h : Ea p e) {u : Int} (hu : S p u 0) : (e : Int) ∣ u := by
  have hp := h.pos
  have h1 : S p (u % (e : Int)) 0 := ((hu.add ((h.is.mul (u / (e : Int))).neg))).of_eq (by
    have := Int.mul_ediv_add_emod u (e : Int)
    rw [Int.mul_comm] at this
    omega) (by simp)
  have h2 : 0 ≤ u % (e : Int) := Int.emod_nonneg _ (by omega)
  have h3 : u % (e : Int) < (e : Int) := Int.emod_lt_of_pos _ (by omega)
  by_cases hz : u % (e : Int) = 0
  · exact Int.dvd_of_emod_eq_zero hz
  · have hk : S p ((u % (e : Int)).toNat : Int) 0 := h1.of_eq (by omega) rfl
    exact absurd hk (h.least _ (by omega) (by omega))
theorem Ea.iff {p : Pat} {e : Nat} (h : Ea p e) {u : Int} : S p u 0 ↔ (e : Int) ∣ u := by
  refine ⟨h.dvd, fun ⟨k, hk⟩ => (h.is.mul k).of_eq (by rw [hk, Int.mul_comm]) (by simp)⟩
/-- g is the least above 0 with some (f, g), f below e -/
structure Ga (p : Pat) (e f g : Nat) : Prop where
  pos : 0 < g
  lt : f < e
  is : S p (f : Int) (g : Int)
  least : ∀ k : Nat, 0 < k → k < g → ∀ u : Int, ¬ S p u (k : Int)
theorem Ga.dvd {p : Pat} {e f g : Nat} (h : Ga p e f g) {u v : Int} (hu : S p u v) : (g : Int) ∣ v := by
  have hp := h.pos
  have h1 : S p (u - v / (g : Int) * (f : Int)) (v % (g : Int)) := ((hu.add ((h.is.mul (v / (g : Int))).neg))).of_eq (by omega) (by
    have := Int.mul_ediv_add_emod v (g : Int)
    rw [Int.mul_comm] at this
    omega)
  have h2 : 0 ≤ v % (g : Int) := Int.emod_nonneg _ (by omega)
  have h3 : v % (g : Int) < (g : Int) := Int.emod_lt_of_pos _ (by omega)
  by_cases hz : v % (g : Int) = 0
  · exact Int.dvd_of_emod_eq_zero hz
  · have hk : S p (u - v / (g : Int) * (f : Int)) ((v % (g : Int)).toNat : Int) := h1.of_eq rfl (by omega)
    exact absurd hk (h.least _ (by omega) (by omega) _)
theorem SG_iff {p : Pat} {e f g : Nat} (he : Ea p e) (h : Ga p e f g) {u v : Int} : S p u v ↔ (g : Int) ∣ v ∧ (e : Int) ∣ u - v / (g : Int) * (f : Int) := by
  have hp := h.pos
  constructor
  · intro hu
    have hd := h.dvd hu
    refine ⟨hd, he.dvd ?_⟩
    obtain ⟨k, hk⟩ := hd
    have hq : v / (g : Int) = k := by rw [hk]; exact Int.mul_ediv_cancel_left k (by omega)
    rw [hq]
    exact (hu.add ((h.is.mul k).neg)).of_eq (by omega) (by rw [hk, Int.mul_comm]; omega)
  · rintro ⟨⟨k, hk⟩, hd⟩
    have hq : v / (g : Int) = k := by rw [hk]; exact Int.mul_ediv_cancel_left k (by omega)
    rw [hq] at hd
    have h1 := he.iff.mpr hd
    exact (h1.add (h.is.mul k)).of_eq (by omega) (by rw [hk, Int.mul_comm]; omega)

/-! ### counting, for n up to 6: e, f, g decide it -/
def cnt (n e f g : Nat) : Nat := ((((List.range n).flatMap fun (u : Nat) => (List.range n).map fun (v : Nat) => decide ((v : Int) % (g : Int) = 0 ∧ ((u : Int) - (v : Int) / (g : Int) * (f : Int)) % (e : Int) = 0)).filter fun b => b).length)
theorem cnt_all : ∀ n ∈ [1, 2, 3, 4, 5, 6], ∀ e ∈ List.range 7, ∀ g ∈ List.range 7, ∀ f ∈ List.range 7, 0 < e → 0 < g → n % e = 0 → n % g = 0 → f < e → cnt n e f g = (n / e) * (n / g) := by
  decide +kernel

theorem find_getD_eq {l : Nat} {P : Nat → Bool} {k : Nat} (hk : k < l) (h : P k = true) (hl : ∀ j, j < k → P j = false) : ((List.range l).find? P).getD 0 = k := by
  have e : (List.range l).find? P = some k := by
    rw [List.find?_eq_some_iff_append]
    refine ⟨h, List.range k, (List.range' (k + 1) (l - k - 1)), ?_, ?_⟩
    · rw [List.range_eq_range', List.range_eq_range']
      have e1 : l = k + (1 + (l - k - 1)) := by omega
      conv => lhs; rw [e1]
      rw [← List.range'_append_1, Nat.zero_add, ← List.range'_append_1]
      rfl
    · intro j hj
      have := List.mem_range.mp hj
      rw [hl j this]
      rfl
  rw [e]
  rfl

theorem cell_spec {n : Nat} {c : List Int} {e f g : Nat} (hn : 1 ≤ n ∧ n ≤ 6) (he : Ea ⟨n, nats c⟩ e) (hg : Ga ⟨n, nats c⟩ e f g) :
    PySa48.cell (n : Int) c = [0, (e : Int), (f : Int), (g : Int), ((n / e) * (n / g) : Nat)] := by
  have hn0 : 0 < (⟨n, nats c⟩ : Pat).n := by show 0 < n; omega
  have en : e ∣ n := Int.natCast_dvd_natCast.mp (he.dvd (S.n0 ⟨n, nats c⟩))
  have gn : g ∣ n := Int.natCast_dvd_natCast.mp (hg.dvd (S.n1 ⟨n, nats c⟩))
  have e0 := he.pos
  have g0 := hg.pos
  have ele : e ≤ n := Nat.le_of_dvd (by omega) en
  have gle : g ≤ n := Nat.le_of_dvd (by omega) gn
  have fl := hg.lt
  have sS : ∀ u v : Nat, sym ⟨n, nats c⟩ 0 (u : Int) (v : Int) = decide ((v : Int) % (g : Int) = 0 ∧ ((u : Int) - (v : Int) / (g : Int) * (f : Int)) % (e : Int) = 0) := fun u v => by
    rw [Bool.eq_iff_iff, sym0 hn0, SG_iff he hg, decide_eq_true_iff, Int.dvd_iff_emod_eq_zero, Int.dvd_iff_emod_eq_zero]
  have hE : ((List.range n).find? fun (u : Nat) => sym ⟨n, nats c⟩ 0 ((u + 1 : Nat) : Int) ((0 : Nat) : Int)).getD 0 = e - 1 := by
    refine find_getD_eq (by omega) ?_ fun j hj => ?_
    · rw [sym0 hn0]
      exact he.is.of_eq (by omega) rfl
    · rw [← Bool.not_eq_true, sym0 hn0]
      exact he.least (j + 1) (by omega) (by omega)
  have hG : ((List.range n).find? fun (v : Nat) => (List.range n).any fun (u : Nat) => sym ⟨n, nats c⟩ 0 (u : Int) ((v + 1 : Nat) : Int)).getD 0 = g - 1 := by
    refine find_getD_eq (by omega) ?_ fun j hj => ?_
    · rw [List.any_eq_true]
      refine ⟨f, List.mem_range.mpr (by omega), ?_⟩
      rw [sym0 hn0]
      exact hg.is.of_eq rfl (by omega)
    · rw [← Bool.not_eq_true, List.any_eq_true]
      rintro ⟨u, _, hu⟩
      rw [sym0 hn0] at hu
      exact hg.least (j + 1) (by omega) (by omega) _ hu
  have hF : ((List.range e).find? fun (u : Nat) => sym ⟨n, nats c⟩ 0 (u : Int) (g : Int)).getD 0 = f := by
    refine find_getD_eq fl ?_ fun j hj => ?_
    · rw [sym0 hn0]
      exact hg.is
    · rw [← Bool.not_eq_true, sym0 hn0]
      intro hs
      have h2 : S ⟨n, nats c⟩ (((f - j : Nat)) : Int) 0 := (hg.is.add hs.neg).of_eq (by omega) (by omega)
      exact he.least (f - j) (by omega) (by omega) h2
  have hc : (((List.range n).flatMap fun (u : Nat) => (List.range n).map fun (v : Nat) => sym ⟨n, nats c⟩ 0 (u : Int) (v : Int)).filter fun b => b).length = (n / e) * (n / g) := by
    have h1 := cnt_all n (by
      have : n = 1 ∨ n = 2 ∨ n = 3 ∨ n = 4 ∨ n = 5 ∨ n = 6 := by omega
      rcases this with rfl | rfl | rfl | rfl | rfl | rfl <;> decide) e (List.mem_range.mpr (by omega)) g (List.mem_range.mpr (by omega)) f (List.mem_range.mpr (by omega)) e0 g0 (Nat.mod_eq_zero_of_dvd en) (Nat.mod_eq_zero_of_dvd gn) fl
    rw [← h1]
    unfold cnt
    simp only [sS]
  show (if (n : Int).toNat < 1 ∨ 64 < (n : Int).toNat then [-2] else _) = _
  rw [if_neg (by omega)]
  have hnn : (n : Int).toNat = n := Int.toNat_natCast n
  dsimp only
  rw [hnn, hE, hG]
  have g1 : g - 1 + 1 = g := by omega
  have e1 : e - 1 + 1 = e := by omega
  rw [g1, e1, hF, hc]
  rfl
theorem cell_bad {n : Int} {c : List Int} (h : n < 1 ∨ 64 < n) : PySa48.cell n c = [-2] := by
  show (if n.toNat < 1 ∨ 64 < n.toNat then [-2] else _) = _
  rw [if_pos (by omega)]
end CM

set_option Elab.async false
namespace MM
open Sa48 Sa48Neutral

/-! ### a symmetry's shift, modulo n -/
theorem emod_add_congr2 {a a' b b' n : Int} (h : a % n = a' % n) (h' : b % n = b' % n) : (a + b) % n = (a' + b') % n := by
  rw [Int.add_emod, h, h', ← Int.add_emod]
theorem sym_congr {p : Pat} {a : Nat} {u v u' v' : Int} (hu : u % (p.n : Int) = u' % (p.n : Int)) (hv : v % (p.n : Int) = v' % (p.n : Int)) : sym p a u v = sym p a u' v' := by
  have e : ∀ x y : Int, p.at_ ((Move.mk a u v).takes x y).1 ((Move.mk a u v).takes x y).2 = p.at_ ((Move.mk a u' v').takes x y).1 ((Move.mk a u' v').takes x y).2 := fun x y =>
    CM.at_mod (emod_add_congr2 rfl hu) (emod_add_congr2 rfl hv)
  unfold sym
  dsimp only
  simp only [e]
theorem place_congr {p : Pat} {a : Nat} {u v u' v' : Int} (k : Nat) (hu : u % (p.n : Int) = u' % (p.n : Int)) (hv : v % (p.n : Int) = v' % (p.n : Int)) : place p a u v k = place p a u' v' k := by
  unfold place
  dsimp only
  have e1 : ∀ x y : Int, ((Move.mk a u v).takes x y).1 % (p.n : Int) = ((Move.mk a u' v').takes x y).1 % (p.n : Int) := fun x y => emod_add_congr2 rfl hu
  have e2 : ∀ x y : Int, ((Move.mk a u v).takes x y).2 % (p.n : Int) = ((Move.mk a u' v').takes x y).2 % (p.n : Int) := fun x y => emod_add_congr2 rfl hv
  rw [e1, e2]
theorem ix_lt {n y x : Nat} (hy : y < n) (hx : x < n) : y * n + x < n * n := by
  have h1 : (y + 1) * n ≤ n * n := Nat.mul_le_mul_right n hy
  rw [Nat.add_mul, Nat.one_mul] at h1
  omega
theorem place_lt {p : Pat} (hn : 0 < p.n) (a : Nat) (u v : Int) (k : Nat) : place p a u v k < p.n * p.n := by
  unfold place
  dsimp only
  have h0 : (0 : Int) < (p.n : Int) := by omega
  refine ix_lt ?_ ?_
  · have h1 := Int.emod_nonneg ((Move.mk a u v).takes ((k % p.n : Nat) : Int) ((k / p.n : Nat) : Int)).2 (b := (p.n : Int)) (by omega)
    have h2 := Int.emod_lt_of_pos ((Move.mk a u v).takes ((k % p.n : Nat) : Int) ((k / p.n : Nat) : Int)).2 h0
    omega
  · have h1 := Int.emod_nonneg ((Move.mk a u v).takes ((k % p.n : Nat) : Int) ((k / p.n : Nat) : Int)).1 (b := (p.n : Int)) (by omega)
    have h2 := Int.emod_lt_of_pos ((Move.mk a u v).takes ((k % p.n : Nat) : Int) ((k / p.n : Nat) : Int)).1 h0
    omega

/-! ### the eight: one behind another, back -/
def inv (a : Nat) : Nat := if a = 1 then 3 else if a = 3 then 1 else a
def comp (a b : Nat) : Nat := (([[0, 1, 2, 3, 4, 5, 6, 7], [1, 2, 3, 0, 7, 6, 4, 5], [2, 3, 0, 1, 5, 4, 7, 6], [3, 0, 1, 2, 6, 7, 5, 4], [4, 6, 5, 7, 0, 2, 1, 3], [5, 7, 4, 6, 2, 0, 3, 1], [6, 5, 7, 4, 3, 1, 0, 2], [7, 4, 6, 5, 1, 3, 2, 0]] : List (List Nat)).getD a []).getD b 0
theorem comp_turned : ∀ a b : Nat, a < 8 → b < 8 → comp a b < 8 ∧ ∀ x y : Int, turned a (turned b x y).1 (turned b x y).2 = turned (comp a b) x y := by
  intro a b ha hb
  have h1 : a = 0 ∨ a = 1 ∨ a = 2 ∨ a = 3 ∨ a = 4 ∨ a = 5 ∨ a = 6 ∨ a = 7 := by omega
  have h2 : b = 0 ∨ b = 1 ∨ b = 2 ∨ b = 3 ∨ b = 4 ∨ b = 5 ∨ b = 6 ∨ b = 7 := by omega
  rcases h1 with rfl | rfl | rfl | rfl | rfl | rfl | rfl | rfl <;> rcases h2 with rfl | rfl | rfl | rfl | rfl | rfl | rfl | rfl <;>
    exact ⟨by decide, fun x y => by simp [turned, comp]⟩
theorem inv_turned (a : Nat) (ha : a < 8) : inv a < 8 ∧ (∀ x y : Int, turned (inv a) (turned a x y).1 (turned a x y).2 = (x, y)) ∧ ∀ x y : Int, turned a (turned (inv a) x y).1 (turned (inv a) x y).2 = (x, y) := by
  have h1 : a = 0 ∨ a = 1 ∨ a = 2 ∨ a = 3 ∨ a = 4 ∨ a = 5 ∨ a = 6 ∨ a = 7 := by omega
  rcases h1 with rfl | rfl | rfl | rfl | rfl | rfl | rfl | rfl <;>
    exact ⟨by decide, fun x y => by simp [turned, inv], fun x y => by simp [turned, inv]⟩
theorem turned_add (a : Nat) (x y u v : Int) : turned a (x + u) (y + v) = ((turned a x y).1 + (turned a u v).1, (turned a x y).2 + (turned a u v).2) := by
  unfold turned
  repeat' split
  all_goals (refine Prod.ext ?_ ?_ <;> (dsimp only) <;> omega)
theorem turned_neg (a : Nat) (x y : Int) : turned a (-x) (-y) = (-(turned a x y).1, -(turned a x y).2) := by
  unfold turned
  repeat' split
  all_goals (refine Prod.ext ?_ ?_ <;> (dsimp only) <;> omega)

/-! ### what symmetries there are -/
def All (p : Pat) (a : Nat) (u v : Int) : Prop := ∀ x y : Int, p.at_ ((Move.mk a u v).takes x y).1 ((Move.mk a u v).takes x y).2 = p.at_ x y
theorem takes_eq (a : Nat) (u v x y : Int) : (Move.mk a u v).takes x y = ((turned a x y).1 + u, (turned a x y).2 + v) := rfl
/-- one behind another -/
def cu (a' : Nat) (u v u' : Int) : Int := (turned a' u v).1 + u'
def cv (a' : Nat) (u v v' : Int) : Int := (turned a' u v).2 + v'
theorem takes_comp {a a' : Nat} (ha : a < 8) (ha' : a' < 8) (u v u' v' x y : Int) :
    (Move.mk a' u' v').takes ((Move.mk a u v).takes x y).1 ((Move.mk a u v).takes x y).2 = (Move.mk (comp a' a) (cu a' u v u') (cv a' u v v')).takes x y := by
  rw [takes_eq, takes_eq, takes_eq]
  dsimp only
  rw [turned_add, (comp_turned a' a ha' ha).2]
  unfold cu cv
  refine Prod.ext ?_ ?_ <;> (dsimp only) <;> omega
def iu (a : Nat) (u v : Int) : Int := -(turned (inv a) u v).1
def iv (a : Nat) (u v : Int) : Int := -(turned (inv a) u v).2
theorem takes_inv {a : Nat} (ha : a < 8) (u v x y : Int) : (Move.mk (inv a) (iu a u v) (iv a u v)).takes ((Move.mk a u v).takes x y).1 ((Move.mk a u v).takes x y).2 = (x, y) := by
  rw [takes_eq, takes_eq]
  dsimp only
  rw [turned_add, (inv_turned a ha).2.1]
  unfold iu iv
  refine Prod.ext ?_ ?_ <;> (dsimp only) <;> omega
theorem takes_inv' {a : Nat} (ha : a < 8) (u v x y : Int) : (Move.mk a u v).takes ((Move.mk (inv a) (iu a u v) (iv a u v)).takes x y).1 ((Move.mk (inv a) (iu a u v) (iv a u v)).takes x y).2 = (x, y) := by
  rw [takes_eq, takes_eq]
  dsimp only
  rw [turned_add]
  unfold iu iv
  rw [turned_neg, (inv_turned a ha).2.2, (inv_turned a ha).2.2]
  refine Prod.ext ?_ ?_ <;> (dsimp only) <;> omega
theorem All.comp {p : Pat} {a a' : Nat} {u v u' v' : Int} (ha : a < 8) (ha' : a' < 8) (h : All p a u v) (h' : All p a' u' v') : All p (comp a' a) (cu a' u v u') (cv a' u v v') := fun x y => by
  rw [← takes_comp ha ha', h', h]
theorem All.inv {p : Pat} {a : Nat} {u v : Int} (ha : a < 8) (h : All p a u v) : All p (inv a) (iu a u v) (iv a u v) := fun x y => by
  rw [← h, takes_inv' ha]
theorem All.id (p : Pat) : All p 0 0 0 := fun x y => by
  show p.at_ (x + 0) (y + 0) = _
  rw [Int.add_zero, Int.add_zero]

/-! ### places by their two numbers -/
theorem ix_mod {n y x : Nat} (hx : x < n) : (y * n + x) % n = x := by
  rw [Nat.add_comm, Nat.add_mul_mod_self_right, Nat.mod_eq_of_lt hx]
theorem ix_div {n y x : Nat} (hx : x < n) : (y * n + x) / n = y := by
  rw [Nat.add_comm, Nat.add_mul_div_right _ _ (by omega), Nat.div_eq_of_lt hx, Nat.zero_add]
theorem place_mod {p : Pat} (hn : 0 < p.n) (a : Nat) (u v : Int) (k : Nat) : ((place p a u v k % p.n : Nat) : Int) = ((Move.mk a u v).takes ((k % p.n : Nat) : Int) ((k / p.n : Nat) : Int)).1 % (p.n : Int) ∧
    ((place p a u v k / p.n : Nat) : Int) = ((Move.mk a u v).takes ((k % p.n : Nat) : Int) ((k / p.n : Nat) : Int)).2 % (p.n : Int) := by
  have h0 : (0 : Int) < (p.n : Int) := by omega
  unfold place
  dsimp only
  have h1 := Int.emod_nonneg ((Move.mk a u v).takes ((k % p.n : Nat) : Int) ((k / p.n : Nat) : Int)).1 (b := (p.n : Int)) (by omega)
  have h2 := Int.emod_lt_of_pos ((Move.mk a u v).takes ((k % p.n : Nat) : Int) ((k / p.n : Nat) : Int)).1 h0
  have h3 := Int.emod_nonneg ((Move.mk a u v).takes ((k % p.n : Nat) : Int) ((k / p.n : Nat) : Int)).2 (b := (p.n : Int)) (by omega)
  rw [ix_mod (by omega), ix_div (by omega)]
  omega
/-- two places with the same two numbers -/
theorem same_place {n i k : Nat} (h1 : i % n = k % n) (h2 : i / n = k / n) : i = k := by
  rw [← Nat.div_add_mod i n, ← Nat.div_add_mod k n, h1, h2]
theorem div_lt_of {n k : Nat} (hk : k < n * n) : k / n < n := Nat.div_lt_of_lt_mul hk
theorem mod_self_small {n k : Nat} (h : k < n) : ((k : Nat) : Int) % (n : Int) = (k : Int) := by
  rw [← Int.natCast_emod, Nat.mod_eq_of_lt h]
theorem place_comp {p : Pat} (hn : 0 < p.n) {a a' : Nat} (ha : a < 8) (ha' : a' < 8) (u v u' v' : Int) (k : Nat) : place p a' u' v' (place p a u v k) = place p (comp a' a) (cu a' u v u') (cv a' u v v') k := by
  have m1 := place_mod hn a u v k
  have m2 := place_mod hn a' u' v' (place p a u v k)
  have m3 := place_mod hn (comp a' a) (cu a' u v u') (cv a' u v v') k
  rw [← takes_comp ha ha'] at m3
  rw [m1.1, m1.2] at m2
  have t := CM.turned_congr (a := a') (CM.emod_self_congr ((Move.mk a u v).takes ((k % p.n : Nat) : Int) ((k / p.n : Nat) : Int)).1 p.n) (CM.emod_self_congr ((Move.mk a u v).takes ((k % p.n : Nat) : Int) ((k / p.n : Nat) : Int)).2 p.n)
  have e1 := CM.emod_add_congr (c := u') t.1
  have e2 := CM.emod_add_congr (c := v') t.2
  refine same_place (n := p.n) ?_ ?_
  · exact Int.ofNat.inj (m2.1.trans (e1.trans m3.1.symm))
  · exact Int.ofNat.inj (m2.2.trans (e2.trans m3.2.symm))
theorem place_id {p : Pat} {k : Nat} (hk : k < p.n * p.n) : place p 0 0 0 k = k := by
  have hn : 0 < p.n := by
    rcases Nat.eq_zero_or_pos p.n with h | h
    · rw [h] at hk
      omega
    · exact h
  have m := place_mod hn 0 0 0 k
  have e : ∀ x y : Int, (Move.mk 0 0 0).takes x y = (x, y) := fun x y => by
    rw [takes_eq]
    show (x + 0, y + 0) = _
    rw [Int.add_zero, Int.add_zero]
  rw [e] at m
  refine same_place (n := p.n) ?_ ?_
  · have h := m.1
    dsimp only at h
    rw [mod_self_small (Nat.mod_lt _ hn)] at h
    exact Int.ofNat.inj h
  · have h := m.2
    dsimp only at h
    rw [mod_self_small (div_lt_of hk)] at h
    exact Int.ofNat.inj h
theorem place_inv {p : Pat} {a : Nat} (ha : a < 8) (u v : Int) {k : Nat} (hk : k < p.n * p.n) : place p (inv a) (iu a u v) (iv a u v) (place p a u v k) = k := by
  have hn : 0 < p.n := by
    rcases Nat.eq_zero_or_pos p.n with h | h
    · rw [h] at hk
      omega
    · exact h
  have m1 := place_mod hn a u v k
  have m2 := place_mod hn (inv a) (iu a u v) (iv a u v) (place p a u v k)
  rw [m1.1, m1.2] at m2
  have t := CM.turned_congr (a := inv a) (CM.emod_self_congr ((Move.mk a u v).takes ((k % p.n : Nat) : Int) ((k / p.n : Nat) : Int)).1 p.n) (CM.emod_self_congr ((Move.mk a u v).takes ((k % p.n : Nat) : Int) ((k / p.n : Nat) : Int)).2 p.n)
  have e1 := CM.emod_add_congr (c := iu a u v) t.1
  have e2 := CM.emod_add_congr (c := iv a u v) t.2
  have i := takes_inv ha u v ((k % p.n : Nat) : Int) ((k / p.n : Nat) : Int)
  have i1 := congrArg Prod.fst i
  have i2 := congrArg Prod.snd i
  refine same_place (n := p.n) ?_ ?_
  · refine Int.ofNat.inj (m2.1.trans (e1.trans ?_))
    show ((Move.mk (inv a) (iu a u v) (iv a u v)).takes ((Move.mk a u v).takes ((k % p.n : Nat) : Int) ((k / p.n : Nat) : Int)).1 ((Move.mk a u v).takes ((k % p.n : Nat) : Int) ((k / p.n : Nat) : Int)).2).1 % (p.n : Int) = _
    rw [i1]
    exact mod_self_small (Nat.mod_lt _ hn)
  · refine Int.ofNat.inj (m2.2.trans (e2.trans ?_))
    show ((Move.mk (inv a) (iu a u v) (iv a u v)).takes ((Move.mk a u v).takes ((k % p.n : Nat) : Int) ((k / p.n : Nat) : Int)).1 ((Move.mk a u v).takes ((k % p.n : Nat) : Int) ((k / p.n : Nat) : Int)).2).2 % (p.n : Int) = _
    rw [i2]
    exact mod_self_small (div_lt_of hk)
end MM

set_option Elab.async false
namespace AM
open Sa48 Sa48Neutral MM

/-- some symmetry takes i to k -/
def Rel (p : Pat) (i k : Nat) : Prop := ∃ (a : Nat) (u v : Int), a < 8 ∧ All p a u v ∧ place p a u v i = k
theorem Rel.refl {p : Pat} {k : Nat} (hk : k < p.n * p.n) : Rel p k k := ⟨0, 0, 0, by decide, All.id p, place_id hk⟩
theorem Rel.symm {p : Pat} {i k : Nat} (hi : i < p.n * p.n) : Rel p i k → Rel p k i := by
  rintro ⟨a, u, v, ha, h, rfl⟩
  exact ⟨inv a, iu a u v, iv a u v, (inv_turned a ha).1, h.inv ha, place_inv ha u v hi⟩
theorem Rel.trans {p : Pat} (hn : 0 < p.n) {i j k : Nat} : Rel p i j → Rel p j k → Rel p i k := by
  rintro ⟨a, u, v, ha, h, rfl⟩ ⟨a', u', v', ha', h', rfl⟩
  exact ⟨comp a' a, cu a' u v u', cv a' u v v', (comp_turned a' a ha' ha).1, h.comp ha ha' h', (place_comp hn ha ha' u v u' v' i).symm⟩

theorem mem_moves {n : Nat} {l : List Nat} {m : Nat × Int × Int} : m ∈ moves n l ↔ m.1 ∈ l ∧ m.2.1 ∈ rg n ∧ m.2.2 ∈ rg n := by
  unfold moves
  rw [List.mem_flatMap]
  constructor
  · rintro ⟨a, ha, h⟩
    rw [List.mem_flatMap] at h
    obtain ⟨u, hu, h⟩ := h
    rw [List.mem_map] at h
    obtain ⟨v, hv, rfl⟩ := h
    exact ⟨ha, hu, hv⟩
  · rintro ⟨h1, h2, h3⟩
    refine ⟨m.1, h1, List.mem_flatMap.mpr ⟨m.2.1, h2, List.mem_map.mpr ⟨m.2.2, h3, rfl⟩⟩⟩
theorem rg_mod {n : Nat} (hn : 0 < n) (u : Int) : u % (n : Int) ∈ rg n := CM.mem_rg.mpr ⟨Int.emod_nonneg _ (by omega), Int.emod_lt_of_pos _ (by omega)⟩
/-- a symmetry among those whose shift lies in the square -/
theorem rel_iff {p : Pat} (hn : 0 < p.n) {i k : Nat} : Rel p i k ↔ ∃ a, a < 8 ∧ ∃ u v : Nat, u < p.n ∧ v < p.n ∧ sym p a (u : Int) (v : Int) = true ∧ place p a (u : Int) (v : Int) i = k := by
  constructor
  · rintro ⟨a, u, v, ha, h, rfl⟩
    have hu := CM.mem_rg.mp (rg_mod hn u)
    have hv := CM.mem_rg.mp (rg_mod hn v)
    have eu : ((u % (p.n : Int)).toNat : Int) = u % (p.n : Int) := Int.toNat_of_nonneg hu.1
    have ev : ((v % (p.n : Int)).toNat : Int) = v % (p.n : Int) := Int.toNat_of_nonneg hv.1
    refine ⟨a, ha, (u % (p.n : Int)).toNat, (v % (p.n : Int)).toNat, by omega, by omega, ?_, ?_⟩
    · rw [eu, ev, sym_congr (CM.emod_self_congr u p.n) (CM.emod_self_congr v p.n)]
      exact (CM.sym_iff hn).mpr h
    · rw [eu, ev]
      exact place_congr i (CM.emod_self_congr u p.n) (CM.emod_self_congr v p.n)
  · rintro ⟨a, ha, u, v, _, _, hs, hp⟩
    exact ⟨a, u, v, ha, (CM.sym_iff hn).mp hs, hp⟩
def symsOf (p : Pat) : List (Nat × Int × Int) := (moves p.n (List.range 8)).filter fun m => sym p m.1 m.2.1 m.2.2
def hits (p : Pat) (k j : Nat) : Bool := (symsOf p).any fun m => place p m.1 m.2.1 m.2.2 j == k
theorem hits_iff {p : Pat} (hn : 0 < p.n) {k j : Nat} : hits p k j = true ↔ Rel p j k := by
  unfold hits symsOf
  rw [List.any_eq_true, rel_iff hn]
  constructor
  · rintro ⟨m, hm, he⟩
    rw [List.mem_filter, mem_moves, List.mem_range] at hm
    obtain ⟨⟨h1, h2, h3⟩, h4⟩ := hm
    have h2' := CM.mem_rg.mp h2
    have h3' := CM.mem_rg.mp h3
    have eu : ((m.2.1).toNat : Int) = m.2.1 := Int.toNat_of_nonneg h2'.1
    have ev : ((m.2.2).toNat : Int) = m.2.2 := Int.toNat_of_nonneg h3'.1
    refine ⟨m.1, h1, (m.2.1).toNat, (m.2.2).toNat, by omega, by omega, ?_, ?_⟩
    · rw [eu, ev]
      exact h4
    · rw [eu, ev]
      exact eq_of_beq he
  · rintro ⟨a, ha, u, v, hu, hv, hs, hp⟩
    refine ⟨(a, (u : Int), (v : Int)), ?_, beq_iff_eq.mpr hp⟩
    rw [List.mem_filter, mem_moves, List.mem_range]
    exact ⟨⟨ha, CM.mem_rg.mpr ⟨by show (0 : Int) ≤ (u : Int); omega, by show ((u : Int)) < _; omega⟩, CM.mem_rg.mpr ⟨by show (0 : Int) ≤ (v : Int); omega, by show ((v : Int)) < _; omega⟩⟩, hs⟩
/-- the least place that is taken to k -/
def lst (p : Pat) (k : Nat) : Nat := ((List.range (p.n * p.n)).find? (hits p k)).getD k
theorem alike_eq (p : Pat) : alike p = (List.range (p.n * p.n)).map (lst p) := rfl
structure Lst (p : Pat) (k j : Nat) : Prop where
  rel : Rel p j k
  le : j ≤ k
  no : ∀ i, i < j → ¬ Rel p i k
theorem lst_spec {p : Pat} {k : Nat} (hk : k < p.n * p.n) : Lst p k (lst p k) := by
  have hn : 0 < p.n := by
    rcases Nat.eq_zero_or_pos p.n with h | h
    · rw [h] at hk
      omega
    · exact h
  unfold lst
  cases e : (List.range (p.n * p.n)).find? (hits p k) with
  | none =>
    rw [List.find?_eq_none] at e
    exact absurd ((hits_iff hn).mpr (Rel.refl hk)) (e k (List.mem_range.mpr hk))
  | some j =>
    rw [List.find?_range_eq_some] at e
    obtain ⟨e1, e2, e3⟩ := e
    have hno : ∀ i, i < j → ¬ Rel p i k := fun i hi hr => by
      have h := e3 i hi
      rw [(hits_iff hn).mpr hr] at h
      cases h
    refine ⟨(hits_iff hn).mp e1, ?_, hno⟩
    show j ≤ k
    rcases Nat.lt_or_ge k j with h | h
    · exact absurd (Rel.refl hk) (hno k h)
    · exact h
theorem lst_lt {p : Pat} {k : Nat} (hk : k < p.n * p.n) : lst p k < p.n * p.n := Nat.lt_of_le_of_lt (lst_spec hk).le hk
theorem lst_le {p : Pat} {i k : Nat} (hk : k < p.n * p.n) (h : Rel p i k) : lst p k ≤ i := by
  rcases Nat.lt_or_ge i (lst p k) with g | g
  · exact absurd h ((lst_spec hk).no i g)
  · exact g
/-- what is taken to one another has one least -/
theorem lst_same {p : Pat} {i k : Nat} (hi : i < p.n * p.n) (hk : k < p.n * p.n) (h : Rel p i k) : lst p i = lst p k := by
  have hn : 0 < p.n := by
    rcases Nat.eq_zero_or_pos p.n with h | h
    · rw [h] at hk
      omega
    · exact h
  have h1 := lst_le hk ((lst_spec hi).rel.trans hn h)
  have h2 := lst_le hi ((lst_spec hk).rel.trans hn (h.symm hi))
  omega
theorem lst_idem {p : Pat} {k : Nat} (hk : k < p.n * p.n) : lst p (lst p k) = lst p k := lst_same (lst_lt hk) hk (lst_spec hk).rel
/-- j is its own least: those that it is taken to are those whose least it is -/
theorem rel_own {p : Pat} {j k : Nat} (hj : j < p.n * p.n) (hk : k < p.n * p.n) (h : lst p j = j) : Rel p j k ↔ lst p k = j := by
  constructor
  · intro r
    rw [← lst_same hj hk r, h]
  · rintro rfl
    exact (lst_spec hk).rel

/-! ### how many are their own least -/
def own (p : Pat) (j : Nat) : Nat := ((List.range j).filter fun i => lst p i == i).length
theorem own_yes {p : Pat} {j : Nat} (h : lst p j = j) : own p (j + 1) = own p j + 1 := by
  unfold own
  rw [List.range_succ, List.filter_append, List.length_append, List.filter_cons, if_pos (beq_iff_eq.mpr h)]
  rfl
theorem own_no {p : Pat} {j : Nat} (h : lst p j ≠ j) : own p (j + 1) = own p j := by
  unfold own
  rw [List.range_succ, List.filter_append, List.length_append, List.filter_cons, if_neg (by rw [beq_iff_eq]; exact h)]
  rfl
theorem own_le (p : Pat) (j : Nat) : own p j ≤ j := by
  have h := List.length_filter_le (fun i => lst p i == i) (List.range j)
  rw [List.length_range] at h
  exact h
theorem dups_eq (p : Pat) : ∀ j, j ≤ p.n * p.n → ((List.range j).map (lst p)).eraseDups = (List.range j).filter fun i => lst p i == i
  | 0, _ => rfl
  | j + 1, hj => by
    rw [List.range_succ, List.map_append, List.eraseDups_append, dups_eq p j (by omega), List.filter_append]
    congr 1
    show (([lst p j] : List Nat).removeAll _).eraseDups = _
    have hj' : j < p.n * p.n := by omega
    rw [List.filter_cons]
    by_cases h : lst p j = j
    · rw [if_pos (beq_iff_eq.mpr h), h]
      have : (([j] : List Nat).removeAll ((List.range j).map (lst p))) = [j] := by
        unfold List.removeAll
        rw [List.filter_cons, if_pos]
        · rfl
        · rw [Bool.not_eq_true', ← Bool.not_eq_true, List.elem_iff, List.mem_map]
          rintro ⟨i, hi, he⟩
          have hi' := List.mem_range.mp hi
          have := (lst_spec (p := p) (k := i) (by omega)).le
          omega
      rw [this]
      rfl
    · rw [if_neg (by rw [beq_iff_eq]; exact h)]
      have : (([lst p j] : List Nat).removeAll ((List.range j).map (lst p))) = [] := by
        unfold List.removeAll
        rw [List.filter_cons, if_neg]
        · rfl
        · rw [Bool.not_eq_true', Bool.not_eq_false, List.elem_iff, List.mem_map]
          exact ⟨lst p j, List.mem_range.mpr (by have := (lst_spec hj').le; omega), lst_idem hj'⟩
      rw [this]
      rfl
theorem dups_len (p : Pat) : (alike p).eraseDups.length = own p (p.n * p.n) := by
  rw [alike_eq, dups_eq p _ (Nat.le_refl _)]
  rfl

/-! ### a table over places, and one of its places changed -/
theorem set_range {α : Type} (N : Nat) (f : Nat → α) (t : Nat) (x : α) : ((List.range N).map f).set t x = (List.range N).map fun k => if k = t then x else f k := by
  refine List.ext_getElem (by simp) fun i h1 h2 => ?_
  rw [List.getElem_set]
  simp only [List.getElem_map, List.getElem_range]
  by_cases h : t = i
  · rw [if_pos h, if_pos h.symm]
  · rw [if_neg h, if_neg (fun z => h z.symm)]
theorem alike_spec {n : Nat} {c : List Int} (hn : 1 ≤ n ∧ n ≤ 6) : PySa48.alike (n : Int) c = ((own ⟨n, nats c⟩ (n * n) : Nat) : Int) :: ((List.range (n * n)).map fun k => ((lst ⟨n, nats c⟩ k : Nat) : Int)) := by
  show (if (n : Int).toNat < 1 ∨ 64 < (n : Int).toNat then [-2] else told (alike ⟨(n : Int).toNat, nats c⟩).eraseDups.length (alike ⟨(n : Int).toNat, nats c⟩)) = _
  rw [if_neg (by omega), Int.toNat_natCast, dups_len, alike_eq]
  unfold Sa48Neutral.told Sa48Neutral.ints
  rw [List.map_map]
  rfl
theorem alike_bad {n : Int} {c : List Int} (h : n < 1 ∨ 64 < n) : PySa48.alike n c = [-2] := by
  show (if n.toNat < 1 ∨ 64 < n.toNat then [-2] else _) = _
  rw [if_pos (by omega)]
end AM

set_option Elab.async false
namespace LM
open Sa48 Sa48Neutral MM

/-! ### lists without doubles -/
theorem len_le_of_sub {α : Type} [BEq α] [LawfulBEq α] : ∀ {l m : List α}, l.Nodup → (∀ x, x ∈ l → x ∈ m) → l.length ≤ m.length
  | [], _, _, _ => Nat.zero_le _
  | a :: l, m, hn, hs => by
    rw [List.nodup_cons] at hn
    have ha : a ∈ m := hs a (List.mem_cons_self ..)
    have h : l.length ≤ (m.erase a).length := len_le_of_sub hn.2 fun x hx => by
      have hne : x ≠ a := fun z => hn.1 (z ▸ hx)
      exact (List.mem_erase_of_ne hne).mpr (hs x (List.mem_cons_of_mem _ hx))
    rw [List.length_erase_of_mem ha] at h
    have : 0 < m.length := List.length_pos_of_mem ha
    show l.length + 1 ≤ _
    omega
theorem len_eq_of_same {α : Type} [BEq α] [LawfulBEq α] {l m : List α} (hl : l.Nodup) (hm : m.Nodup) (h : ∀ x, x ∈ l ↔ x ∈ m) : l.length = m.length :=
  Nat.le_antisymm (len_le_of_sub hl fun x hx => (h x).mp hx) (len_le_of_sub hm fun x hx => (h x).mpr hx)

/-! ### what a movement makes -/
/-- a list written place by place -/
theorem fold_set {N : Nat} (f g : Nat → Nat) (hf : ∀ i, i < N → f i < N) (hi : ∀ i j, i < N → j < N → f i = f j → i = j) : ∀ j, j ≤ N → 
    let c := (List.range j).foldl (fun (c : Array Nat) (k : Nat) => c.setIfInBounds (f k) (g k)) (Array.replicate N 0)
    c.size = N ∧ ∀ k, k < j → c[f k]? = some (g k)
  | 0, _ => ⟨Array.size_replicate, fun k hk => absurd hk (Nat.not_lt_zero k)⟩
  | j + 1, hj => by
    obtain ⟨h1, h2⟩ := fold_set f g hf hi j (by omega)
    dsimp only
    rw [List.range_succ, List.foldl_append]
    dsimp only [List.foldl_cons, List.foldl_nil]
    refine ⟨by rw [Array.size_setIfInBounds]; exact h1, fun k hk => ?_⟩
    rw [Array.getElem?_setIfInBounds]
    by_cases e : f j = f k
    · have ejk := hi j k (by omega) (by omega) e
      subst ejk
      rw [if_pos rfl, if_pos (by rw [h1]; exact hf j (by omega))]
    · rw [if_neg e]
      have hne : k ≠ j := fun z => e (z ▸ rfl)
      exact h2 k (by omega)
theorem made_len {p : Pat} {a : Nat} (ha : a < 8) (u v : Int) : (made p a u v).length = p.n * p.n ∧ ∀ k, k < p.n * p.n → (made p a u v)[place p a u v k]? = some (p.c.getD k 0) := by
  have h := fold_set (N := p.n * p.n) (place p a u v) (fun k => p.c.getD k 0) (fun i hi => place_lt (by
    rcases Nat.eq_zero_or_pos p.n with h | h
    · rw [h] at hi
      omega
    · exact h) a u v i) (fun i j hi hj e => by
      have e1 := place_inv (p := p) ha u v hi
      have e2 := place_inv (p := p) ha u v hj
      rw [← e1, ← e2, e]) (p.n * p.n) (Nat.le_refl _)
  dsimp only at h
  unfold made
  refine ⟨by rw [Array.length_toList]; exact h.1, fun k hk => ?_⟩
  rw [Array.getElem?_toList]
  exact h.2 k hk
/-- the square of what stands where a movement takes each place -/
def pulled (p : Pat) (a : Nat) (u v : Int) : List Nat := (List.range (p.n * p.n)).map fun k => p.c.getD (place p a u v k) 0
theorem inv_inv (a : Nat) (ha : a < 8) : inv (inv a) = a := by
  have h1 : a = 0 ∨ a = 1 ∨ a = 2 ∨ a = 3 ∨ a = 4 ∨ a = 5 ∨ a = 6 ∨ a = 7 := by omega
  rcases h1 with rfl | rfl | rfl | rfl | rfl | rfl | rfl | rfl <;> rfl
theorem i_i (a : Nat) (ha : a < 8) (u v : Int) : iu (inv a) (iu a u v) (iv a u v) = u ∧ iv (inv a) (iu a u v) (iv a u v) = v := by
  unfold iu iv
  rw [turned_neg, inv_inv a ha, (inv_turned a ha).2.2]
  dsimp only
  omega
theorem place_inv' {p : Pat} {a : Nat} (ha : a < 8) (u v : Int) {k : Nat} (hk : k < p.n * p.n) : place p a u v (place p (inv a) (iu a u v) (iv a u v) k) = k := by
  have h := place_inv (p := p) (inv_turned a ha).1 (iu a u v) (iv a u v) hk
  rw [(i_i a ha u v).1, (i_i a ha u v).2, inv_inv a ha] at h
  exact h
theorem made_eq {p : Pat} {a : Nat} (ha : a < 8) (u v : Int) : made p a u v = pulled p (inv a) (iu a u v) (iv a u v) := by
  obtain ⟨h1, h2⟩ := made_len (p := p) ha u v
  refine List.ext_getElem? fun k => ?_
  unfold pulled
  by_cases hk : k < p.n * p.n
  · have hn : 0 < p.n := by
      rcases Nat.eq_zero_or_pos p.n with h | h
      · rw [h] at hk
        omega
      · exact h
    have h := h2 (place p (inv a) (iu a u v) (iv a u v) k) (place_lt hn _ _ _ _)
    rw [place_inv' ha u v hk] at h
    rw [h, List.getElem?_map, List.getElem?_range hk]
    rfl
  · rw [List.getElem?_eq_none (by omega), List.getElem?_eq_none (by rw [List.length_map, List.length_range]; omega)]
theorem pulled_congr {p : Pat} {a : Nat} {u v u' v' : Int} (hu : u % (p.n : Int) = u' % (p.n : Int)) (hv : v % (p.n : Int) = v' % (p.n : Int)) : pulled p a u v = pulled p a u' v' := by
  unfold pulled
  refine List.map_congr_left fun k _ => ?_
  rw [place_congr k hu hv]
theorem pulled_len (p : Pat) (a : Nat) (u v : Int) : (pulled p a u v).length = p.n * p.n := by
  unfold pulled
  rw [List.length_map, List.length_range]

/-! ### which movements count -/
theorem mem_which {w a : Nat} (hw : w ≤ 2) : a ∈ which w ↔ a < (if w = 0 then 1 else if w = 1 then 4 else 8) := by
  unfold which counts
  rw [List.mem_filter, List.mem_range]
  have h : w = 0 ∨ w = 1 ∨ w = 2 := by omega
  rcases h with rfl | rfl | rfl
  · simp
    omega
  · simp
    omega
  · simp
theorem which_lt {w a : Nat} (h : a ∈ which w) : a < 8 := List.mem_range.mp (List.mem_filter.mp h).1
theorem which_inv {w a : Nat} (hw : w ≤ 2) (h : a ∈ which w) : inv a ∈ which w := by
  have h8 := which_lt h
  rw [mem_which hw] at h ⊢
  have h1 : a = 0 ∨ a = 1 ∨ a = 2 ∨ a = 3 ∨ a = 4 ∨ a = 5 ∨ a = 6 ∨ a = 7 := by omega
  have h2 : w = 0 ∨ w = 1 ∨ w = 2 := by omega
  rcases h2 with rfl | rfl | rfl <;> rcases h1 with rfl | rfl | rfl | rfl | rfl | rfl | rfl | rfl <;> revert h <;> decide
/-- all that movements make -/
def Is (p : Pat) (w : Nat) (q : List Nat) : Prop := ∃ a ∈ which w, ∃ u v : Nat, u < p.n ∧ v < p.n ∧ q = pulled p a (u : Int) (v : Int)
theorem is_of {p : Pat} (hn : 0 < p.n) {w a : Nat} (ha : a ∈ which w) (u v : Int) : Is p w (pulled p a u v) := by
  have hu := CM.mem_rg.mp (AM.rg_mod hn u)
  have hv := CM.mem_rg.mp (AM.rg_mod hn v)
  refine ⟨a, ha, (u % (p.n : Int)).toNat, (v % (p.n : Int)).toNat, by omega, by omega, ?_⟩
  rw [Int.toNat_of_nonneg hu.1, Int.toNat_of_nonneg hv.1]
  exact (pulled_congr (CM.emod_self_congr u p.n) (CM.emod_self_congr v p.n)).symm
theorem made_is {p : Pat} (hn : 0 < p.n) {w : Nat} (hw : w ≤ 2) {q : List Nat} : (∃ m ∈ moves p.n (which w), q = made p m.1 m.2.1 m.2.2) ↔ Is p w q := by
  constructor
  · rintro ⟨m, hm, rfl⟩
    have h := AM.mem_moves.mp hm
    rw [made_eq (which_lt h.1)]
    exact is_of hn (which_inv hw h.1) _ _
  · rintro ⟨a, ha, u, v, hu, hv, rfl⟩
    have a8 := which_lt ha
    have hu' := AM.rg_mod hn (iu a (u : Int) (v : Int))
    have hv' := AM.rg_mod hn (iv a (u : Int) (v : Int))
    refine ⟨(inv a, iu a (u : Int) (v : Int) % (p.n : Int), iv a (u : Int) (v : Int) % (p.n : Int)), AM.mem_moves.mpr ⟨which_inv hw ha, hu', hv'⟩, ?_⟩
    dsimp only
    rw [made_eq (inv_turned a a8).1, inv_inv a a8]
    have i := i_i a a8 (u : Int) (v : Int)
    have e1 : iu (inv a) (iu a (u : Int) (v : Int) % (p.n : Int)) (iv a (u : Int) (v : Int) % (p.n : Int)) % (p.n : Int) = (u : Int) % (p.n : Int) := by
      have t := CM.turned_congr (a := inv (inv a)) (CM.emod_self_congr (iu a (u : Int) (v : Int)) p.n) (CM.emod_self_congr (iv a (u : Int) (v : Int)) p.n)
      have z := CM.emod_neg_congr t.1
      unfold iu at z ⊢
      refine z.trans ?_
      have i1 := i.1
      unfold iu at i1
      rw [i1]
    have e2 : iv (inv a) (iu a (u : Int) (v : Int) % (p.n : Int)) (iv a (u : Int) (v : Int) % (p.n : Int)) % (p.n : Int) = (v : Int) % (p.n : Int) := by
      have t := CM.turned_congr (a := inv (inv a)) (CM.emod_self_congr (iu a (u : Int) (v : Int)) p.n) (CM.emod_self_congr (iv a (u : Int) (v : Int)) p.n)
      have z := CM.emod_neg_congr t.2
      unfold iv at z ⊢
      refine z.trans ?_
      have i2 := i.2
      unfold iv at i2
      rw [i2]
    exact (pulled_congr e1 e2).symm

/-! ### each once -/
theorem once_mem {α β : Type} [BEq β] [LawfulBEq β] (g : α → β) : ∀ (l : List α) (acc : List β), acc.Nodup →
    (l.foldl (fun acc m => if acc.contains (g m) = true then acc else g m :: acc) acc).Nodup ∧ ∀ q, q ∈ l.foldl (fun acc m => if acc.contains (g m) = true then acc else g m :: acc) acc ↔ q ∈ acc ∨ ∃ m ∈ l, q = g m
  | [], acc, ha => ⟨ha, fun q => by simp⟩
  | m :: l, acc, ha => by
    rw [List.foldl_cons]
    by_cases h : acc.contains (g m) = true
    · rw [if_pos h]
      obtain ⟨h1, h2⟩ := once_mem g l acc ha
      refine ⟨h1, fun q => ?_⟩
      rw [h2]
      rw [List.contains_iff_mem] at h
      constructor
      · rintro (h3 | ⟨m', h3, rfl⟩)
        · exact .inl h3
        · exact .inr ⟨m', List.mem_cons_of_mem _ h3, rfl⟩
      · rintro (h3 | ⟨m', h3, rfl⟩)
        · exact .inl h3
        · rcases List.mem_cons.mp h3 with rfl | h4
          · exact .inl h
          · exact .inr ⟨m', h4, rfl⟩
    · rw [if_neg h]
      rw [List.contains_iff_mem] at h
      obtain ⟨h1, h2⟩ := once_mem g l (g m :: acc) (List.nodup_cons.mpr ⟨h, ha⟩)
      refine ⟨h1, fun q => ?_⟩
      rw [h2]
      constructor
      · rintro (h3 | ⟨m', h3, rfl⟩)
        · rcases List.mem_cons.mp h3 with rfl | h4
          · exact .inr ⟨m, List.mem_cons_self .., rfl⟩
          · exact .inl h4
        · exact .inr ⟨m', List.mem_cons_of_mem _ h3, rfl⟩
      · rintro (h3 | ⟨m', h3, rfl⟩)
        · exact .inl (List.mem_cons_of_mem _ h3)
        · rcases List.mem_cons.mp h3 with rfl | h4
          · exact .inl (List.mem_cons_self ..)
          · exact .inr ⟨m', h4, rfl⟩
theorem images_say {p : Pat} (hn : 0 < p.n) {w : Nat} (hw : w ≤ 2) : (images p w).Nodup ∧ ∀ q, q ∈ images p w ↔ Is p w q := by
  obtain ⟨h1, h2⟩ := once_mem (fun m : Nat × Int × Int => made p m.1 m.2.1 m.2.2) (moves p.n (which w)) [] List.nodup_nil
  refine ⟨h1, fun q => ?_⟩
  rw [← made_is hn hw]
  show q ∈ List.foldl _ _ _ ↔ _
  rw [h2]
  simp

/-! ### the first -/
theorem before_irrefl : ∀ a : List Nat, before a a = false
  | [] => rfl
  | x :: a => by
    show (decide (x < x) || (x == x && before a a)) = false
    rw [before_irrefl a]
    simp
theorem before_trans : ∀ {a b c : List Nat}, before a b = true → before b c = true → before a c = true
  | [], _, _, h, _ => by cases h
  | _ :: _, [], _, h, _ => by cases h
  | _ :: _, _ :: _, [], _, h => by cases h
  | x :: a, y :: b, z :: c, h1, h2 => by
    have h1 : (decide (x < y) || (x == y && before a b)) = true := h1
    have h2 : (decide (y < z) || (y == z && before b c)) = true := h2
    show (decide (x < z) || (x == z && before a c)) = true
    rw [Bool.or_eq_true, Bool.and_eq_true, decide_eq_true_iff, beq_iff_eq] at h1 h2 ⊢
    rcases h1 with h1 | ⟨h1, h3⟩ <;> rcases h2 with h2 | ⟨h2, h4⟩
    · exact .inl (by omega)
    · exact .inl (by omega)
    · exact .inl (by omega)
    · exact .inr ⟨by omega, before_trans h3 h4⟩
theorem before_total : ∀ {a b : List Nat}, a.length = b.length → before a b = true ∨ a = b ∨ before b a = true
  | [], [], _ => .inr (.inl rfl)
  | x :: a, y :: b, h => by
    show (decide (x < y) || (x == y && before a b)) = true ∨ _ ∨ (decide (y < x) || (y == x && before b a)) = true
    rw [Bool.or_eq_true, Bool.or_eq_true, Bool.and_eq_true, Bool.and_eq_true, decide_eq_true_iff, decide_eq_true_iff, beq_iff_eq, beq_iff_eq]
    rcases Nat.lt_trichotomy x y with g | g | g
    · exact .inl (.inl g)
    · subst g
      rcases before_total (a := a) (b := b) (Nat.succ.inj h) with g | g | g
      · exact .inl (.inr ⟨rfl, g⟩)
      · exact .inr (.inl (by rw [g]))
      · exact .inr (.inr (.inr ⟨rfl, g⟩))
    · exact .inr (.inr (.inl g))
  | [], _ :: _, h => by simp at h
  | _ :: _, [], h => by simp at h
/-- the fold's answer: one of them, none is before it -/
theorem first_of : ∀ (l : List (List Nat)) (b : List Nat), let r := l.foldl (fun (b q : List Nat) => if before q b = true then q else b) b
    (r = b ∨ r ∈ l) ∧ (r = b ∨ before r b = true) ∧ ∀ q, q ∈ l → before q r = false
  | [], b => ⟨.inl rfl, .inl rfl, fun q hq => by cases hq⟩
  | x :: l, b => by
    dsimp only [List.foldl_cons]
    by_cases h : before x b = true
    · rw [if_pos h]
      obtain ⟨h1, h2, h3⟩ := first_of l x
      refine ⟨?_, ?_, fun q hq => ?_⟩
      · rcases h1 with h1 | h1
        · exact .inr (List.mem_cons.mpr (.inl h1))
        · exact .inr (List.mem_cons_of_mem _ h1)
      · rcases h2 with h2 | h2
        · exact .inr (h2.symm ▸ h)
        · exact .inr (before_trans h2 h)
      · rcases List.mem_cons.mp hq with rfl | hq
        · rcases h2 with h2 | h2
          · rw [h2]
            exact before_irrefl _
          · rw [← Bool.not_eq_true]
            intro z
            have y := before_trans h2 z
            rw [before_irrefl] at y
            cases y
        · exact h3 q hq
    · rw [if_neg h]
      obtain ⟨h1, h2, h3⟩ := first_of l b
      refine ⟨?_, h2, fun q hq => ?_⟩
      · rcases h1 with h1 | h1
        · exact .inl h1
        · exact .inr (List.mem_cons_of_mem _ h1)
      · rcases List.mem_cons.mp hq with rfl | hq
        · rw [← Bool.not_eq_true]
          intro z
          rcases h2 with h2 | h2
          · rw [h2] at z
            exact h z
          · exact h (before_trans z h2)
        · exact h3 q hq
theorem is_len {p : Pat} {w : Nat} {q : List Nat} (h : Is p w q) : q.length = p.n * p.n := by
  obtain ⟨a, _, u, v, _, _, rfl⟩ := h
  exact pulled_len ..
theorem self_is {p : Pat} (hn : 0 < p.n) (hc : p.c.length = p.n * p.n) (w : Nat) (hw : w ≤ 2) : Is p w p.c := by
  have h0 : 0 ∈ which w := by
    rw [mem_which hw]
    split
    · omega
    · split <;> omega
  have e : pulled p 0 0 0 = p.c := by
    refine List.ext_getElem? fun k => ?_
    unfold pulled
    by_cases hk : k < p.n * p.n
    · rw [List.getElem?_map, List.getElem?_range hk]
      show some (p.c.getD (place p 0 0 0 k) 0) = _
      rw [place_id hk, List.getD_eq_getElem?_getD, List.getElem?_eq_getElem (by omega)]
      rfl
    · rw [List.getElem?_eq_none (by rw [List.length_map, List.length_range]; omega), List.getElem?_eq_none (by omega)]
  rw [← e]
  exact is_of hn h0 0 0
/-- **least, whatever way it is found**: a list of all of them, each once; one of them that none is before -/
theorem least_spec {n : Nat} {c : List Int} {w : Nat} (hn : 1 ≤ n ∧ n ≤ 64) (hw : w ≤ 2) (hc : c.length = n * n) {L : List (List Nat)} {r : List Nat} (hL : L.Nodup) (hm : ∀ q, q ∈ L ↔ Is ⟨n, nats c⟩ w q) (hr : Is ⟨n, nats c⟩ w r) (hf : ∀ q, Is ⟨n, nats c⟩ w q → before q r = false) :
    PySa48.least (n : Int) (w : Int) c = (L.length : Int) :: r.map fun (x : Nat) => (x : Int) := by
  have hn0 : 0 < (⟨n, nats c⟩ : Pat).n := by show 0 < n; omega
  have hcl : (nats c).length = n * n := by
    unfold nats
    rw [List.length_map, hc]
  obtain ⟨i1, i2⟩ := images_say (p := ⟨n, nats c⟩) hn0 hw
  show (if (n : Int).toNat < 1 ∨ 64 < (n : Int).toNat ∨ (w : Int) < 0 ∨ 2 < (w : Int).toNat then [-2] else told (images ⟨(n : Int).toNat, nats c⟩ (w : Int).toNat).length ((images ⟨(n : Int).toNat, nats c⟩ (w : Int).toNat).foldl (fun (b q : List Nat) => if before q b = true then q else b) (nats c))) = _
  rw [if_neg (by omega), Int.toNat_natCast, Int.toNat_natCast]
  have el := len_eq_of_same i1 hL fun q => (i2 q).trans (hm q).symm
  obtain ⟨f1, f2, f3⟩ := first_of (images ⟨n, nats c⟩ w) (nats c)
  have hself := self_is (p := ⟨n, nats c⟩) hn0 hcl w hw
  generalize (images ⟨n, nats c⟩ w).foldl (fun (b q : List Nat) => if before q b = true then q else b) (nats c) = z at f1 f2 f3 ⊢
  have hz : Is ⟨n, nats c⟩ w z := by
    rcases f1 with f1 | f1
    · rw [f1]
      exact hself
    · exact (i2 z).mp f1
  have e : z = r := by
    have a1 := hf z hz
    have a2 := f3 r ((i2 r).mpr hr)
    rcases before_total (a := z) (b := r) ((is_len hz).trans (is_len hr).symm) with t | t | t
    · rw [t] at a1
      cases a1
    · exact t
    · rw [t] at a2
      cases a2
  rw [el, e]
  rfl
theorem least_bad {n w : Int} {c : List Int} (h : n < 1 ∨ 64 < n ∨ w < 0 ∨ 2 < w) : PySa48.least n w c = [-2] := by
  show (if n.toNat < 1 ∨ 64 < n.toNat ∨ w < 0 ∨ 2 < w.toNat then [-2] else _) = _
  rw [if_pos (by omega)]
end LM

namespace CH
open PySem PySem.Spec PyProof.Rows L2 Evl
open PySem.W (Codec)
/-! ### the text -/
def topS (i : Nat) : Stmt := PySem.Challenge.pw_planerepeats_s04_least.main.body.getD i (.Pass ⟨0, 0, 0, 0⟩)
def rTupOf (K : PySem.W.Frag) : List V → Hp → VK → Prop := fun xs H Q => ∃ p ys, xs = [.ref p] ∧ ((SqL K H p ys ∧ ∀ l, H l = none → Q (.ref l) (upd H l (.tup ys))) ∨ (SqT K H p ys ∧ Q (.ref p) H))
/-! def turned: slots 0 way 1 x 2 y 3 images; calls none; built-ins none -/
abbrev s_turned : Stmt := topS 1
theorem sc_turned : FnScope ["way", "x", "y", "images"] ["way", "x", "y"] (defScope s_turned) := ⟨rfl, rfl, rfl, by decide +kernel, rfl, by decide +kernel, by decide +kernel⟩
/-! def taken: slots 0 n 1 way 2 a 3 b 4 place 5 image; calls turned; built-ins none -/
abbrev s_taken : Stmt := topS 2
theorem sc_taken : FnScope ["n", "way", "a", "b", "place", "image"] ["n", "way", "a", "b", "place"] (defScope s_taken) := ⟨rfl, rfl, rfl, by decide +kernel, rfl, by decide +kernel, by decide +kernel⟩
/-! def movements_by: slots 0 n 1 what 2 found 3 way 4 b 5 a; calls none; built-ins range -/
abbrev s_movements_by : Stmt := topS 3
theorem sc_movements_by : FnScope ["n", "what", "found", "way", "b", "a"] ["n", "what"] (defScope s_movements_by) := ⟨rfl, rfl, rfl, by decide +kernel, rfl, by decide +kernel, by decide +kernel⟩
/-! def made: slots 0 n 1 p 2 way 3 a 4 b 5 square 6 place; calls taken; built-ins list, range -/
abbrev s_made : Stmt := topS 4
theorem sc_made : FnScope ["n", "p", "way", "a", "b", "square", "place"] ["n", "p", "way", "a", "b"] (defScope s_made) := ⟨rfl, rfl, rfl, by decide +kernel, rfl, by decide +kernel, by decide +kernel⟩
/-! def least: slots 0 n 1 what 2 p 3 squares 4 way 5 a 6 b; calls movements_by, made, is_what, is_side; built-ins len, list, min, set, tuple -/
abbrev s_least : Stmt := topS 6
theorem sc_least : FnScope ["n", "what", "p", "squares", "way", "a", "b"] ["n", "what", "p"] (defScope s_least) := ⟨rfl, rfl, rfl, by decide +kernel, rfl, by decide +kernel, by decide +kernel⟩
/-! def is_side: slots 0 n; calls none; built-ins none -/
abbrev s_is_side : Stmt := topS 7
theorem sc_is_side : FnScope ["n"] ["n"] (defScope s_is_side) := ⟨rfl, rfl, rfl, by decide +kernel, rfl, by decide +kernel, by decide +kernel⟩
/-! def is_what: slots 0 what; calls none; built-ins none -/
abbrev s_is_what : Stmt := topS 8
theorem sc_is_what : FnScope ["what"] ["what"] (defScope s_is_what) := ⟨rfl, rfl, rfl, by decide +kernel, rfl, by decide +kernel, by decide +kernel⟩
/-! ### what is known of a request -/
def gt (c : List Int) (k : Nat) : Int := c.getD k 0
structure Rq (n : Nat) (c : List Int) : Prop where
  lo : 1 ≤ n
  hi : n ≤ 6
  len : c.length = n * n
  nn : ∀ z ∈ c, 0 ≤ z
abbrev Pt (n : Nat) (c : List Int) : Sa48.Pat := ⟨n, Sa48Neutral.nats c⟩
/-- where a movement takes a place of the square -/
def pl (n w : Nat) (a b : Int) (k : Nat) : Nat := Sa48Neutral.place ⟨n, []⟩ w a b k
theorem pl_eq (n w : Nat) (a b : Int) (k : Nat) (c : List Int) : Sa48Neutral.place (Pt n c) w a b k = pl n w a b k := rfl
theorem pl_lt {n : Nat} (hn : 1 ≤ n) (w : Nat) (a b : Int) (k : Nat) : pl n w a b k < n * n := MM.place_lt (p := ⟨n, []⟩) (by show 0 < n; omega) w a b k
theorem at_int {c : List Int} {i : Int} {k : Nat} (e : i = (k : Int)) (hk : k < c.length) : atI (c.map V.int) i = some (.int (gt c k)) := by
  rw [e]
  refine atI_nat ?_
  rw [List.getElem?_map, List.getElem?_eq_getElem hk]
  unfold gt
  rw [List.getD_eq_getElem?_getD, List.getElem?_eq_getElem hk]
  rfl
theorem getD_nats : ∀ (c : List Int) (k : Nat), (Sa48Neutral.nats c).getD k 0 = (gt c k).toNat
  | [], k => by
    show ([] : List Nat).getD k 0 = (([] : List Int).getD k 0).toNat
    rw [List.getD_nil, List.getD_nil]
    rfl
  | z :: c, 0 => rfl
  | z :: c, k + 1 => by
    have ih := getD_nats c k
    unfold gt at ih ⊢
    rw [List.getD_cons_succ, ← ih]
    exact List.getD_cons_succ
theorem gt_nn {c : List Int} (hc : ∀ z ∈ c, 0 ≤ z) (k : Nat) : 0 ≤ gt c k := by
  unfold gt
  rw [List.getD_eq_getElem?_getD]
  cases e : c[k]? with
  | none => exact Int.le_refl 0
  | some z => exact hc z (List.mem_of_getElem? e)
/-- a symmetry, by the colours of the square's places -/
theorem sym_all {n : Nat} {c : List Int} (R : Rq n c) {w : Nat} {a b : Int} : Sa48Neutral.sym (Pt n c) w a b = true ↔ ∀ k, k < n * n → gt c k = gt c (pl n w a b k) := by
  have n1 := R.lo
  have key : ∀ k, k < n * n → ((Pt n c).at_ ((Sa48.Move.mk w a b).takes ((k % n : Nat) : Int) ((k / n : Nat) : Int)).1 ((Sa48.Move.mk w a b).takes ((k % n : Nat) : Int) ((k / n : Nat) : Int)).2 = (Pt n c).at_ ((k % n : Nat) : Int) ((k / n : Nat) : Int) ↔ gt c k = gt c (pl n w a b k)) := fun k hk => by
    have h1 : (Pt n c).at_ ((Sa48.Move.mk w a b).takes ((k % n : Nat) : Int) ((k / n : Nat) : Int)).1 ((Sa48.Move.mk w a b).takes ((k % n : Nat) : Int) ((k / n : Nat) : Int)).2 = (gt c (pl n w a b k)).toNat := by
      rw [← getD_nats]
      rfl
    have h2 : (Pt n c).at_ ((k % n : Nat) : Int) ((k / n : Nat) : Int) = (gt c k).toNat := by
      rw [← getD_nats]
      unfold Sa48.Pat.at_
      dsimp only
      rw [MM.mod_self_small (Nat.mod_lt _ (by omega)), MM.mod_self_small (MM.div_lt_of hk), Int.toNat_natCast, Int.toNat_natCast, Nat.mul_comm, Nat.div_add_mod]
    rw [h1, h2]
    have g1 := gt_nn R.nn k
    have g2 := gt_nn R.nn (pl n w a b k)
    omega
  unfold Sa48Neutral.sym
  rw [List.all_eq_true]
  constructor
  · intro h k hk
    refine (key k hk).mp ?_
    have hx : ((k % n : Nat) : Int) ∈ Sa48Neutral.rg n := CM.mem_rg.mpr ⟨Int.natCast_nonneg _, Int.ofNat_lt.mpr (Nat.mod_lt k (by omega))⟩
    have hy : ((k / n : Nat) : Int) ∈ Sa48Neutral.rg n := CM.mem_rg.mpr ⟨Int.natCast_nonneg _, Int.ofNat_lt.mpr (MM.div_lt_of hk)⟩
    exact eq_of_beq (List.all_eq_true.mp (h _ hx) _ hy)
  · intro h x hx
    refine List.all_eq_true.mpr fun y hy => ?_
    have hx' := CM.mem_rg.mp hx
    have hy' := CM.mem_rg.mp hy
    have hx2 : x < (n : Int) := hx'.2
    have hy2 : y < (n : Int) := hy'.2
    have hk : y.toNat * n + x.toNat < n * n := MM.ix_lt (by omega) (by omega)
    have z := (key _ hk).mpr (h _ hk)
    rw [MM.ix_mod (by omega), MM.ix_div (by omega), Int.toNat_of_nonneg hx'.1, Int.toNat_of_nonneg hy'.1] at z
    exact beq_iff_eq.mpr z
/-! ### tuples made on the way -/
def Tups (H : Hp) : List V → List (List V) → Prop
  | [], [] => True
  | v :: vs, xs :: xss => (∃ a, v = .ref a ∧ H a = some (.tup xs)) ∧ Tups H vs xss
  | _, _ => False
theorem Tups.mono {H H' : Hp} (e : Ex H H') : ∀ {vs : List V} {xss : List (List V)}, Tups H vs xss → Tups H' vs xss
  | [], [], _ => trivial
  | _ :: _, _ :: _, ⟨⟨a, h1, h2⟩, h3⟩ => ⟨⟨a, h1, e _ _ h2⟩, Tups.mono e h3⟩
theorem Tups.upd {H : Hp} {l : Addr} {ys : List V} {o : HO} (hl : H l = some (.lst ys)) : ∀ {vs : List V} {xss : List (List V)}, Tups H vs xss → Tups (upd H l o) vs xss
  | [], [], _ => trivial
  | _ :: _, _ :: _, ⟨⟨a, h1, h2⟩, h3⟩ => ⟨⟨a, h1, by
      rw [upd_ne (fun z => by rw [z, hl] at h2; cases h2)]
      exact h2⟩, Tups.upd hl h3⟩
theorem Tups.app {H : Hp} {p : Addr} {zs : List V} (hp : H p = some (.tup zs)) : ∀ {vs : List V} {xss : List (List V)}, Tups H vs xss → Tups H (vs ++ [.ref p]) (xss ++ [zs])
  | [], [], _ => ⟨⟨p, rfl, hp⟩, trivial⟩
  | _ :: _, _ :: _, ⟨h1, h3⟩ => ⟨h1, Tups.app hp h3⟩
theorem Tups.len {H : Hp} : ∀ {vs : List V} {xss : List (List V)}, Tups H vs xss → vs.length = xss.length
  | [], [], _ => rfl
  | _ :: _, _ :: _, ⟨_, h3⟩ => congrArg (· + 1) h3.len
theorem Tups.get {H : Hp} : ∀ {vs : List V} {xss : List (List V)}, Tups H vs xss → ∀ {i : Nat} {x : V}, vs[i]? = some x → ∃ xs a, xss[i]? = some xs ∧ x = .ref a ∧ H a = some (.tup xs)
  | [], [], _, i, x, h => by simp at h
  | v :: vs, xs :: xss, ⟨⟨a, h1, h2⟩, h3⟩, 0, x, h => by
    have e : v = x := Option.some.inj h
    exact ⟨xs, a, rfl, e.symm.trans h1, h2⟩
  | v :: vs, xs :: xss, ⟨_, h3⟩, i + 1, x, h => by
    obtain ⟨zs, a, h1, h2, h4⟩ := h3.get (i := i) h
    exact ⟨zs, a, h1, h2, h4⟩
theorem Tups.at {H : Hp} : ∀ {vs : List V} {xss : List (List V)}, Tups H vs xss → ∀ {i : Nat} {xs : List V}, xss[i]? = some xs → ∃ a, vs[i]? = some (.ref a) ∧ H a = some (.tup xs)
  | [], [], _, i, x, h => by simp at h
  | v :: vs, xs :: xss, ⟨⟨a, h1, h2⟩, h3⟩, 0, x, h => by
    have e : xs = x := Option.some.inj h
    exact ⟨a, congrArg some h1, e ▸ h2⟩
  | v :: vs, xs :: xss, ⟨_, h3⟩, i + 1, x, h => by
    obtain ⟨a, h2, h4⟩ := h3.at (i := i) h
    exact ⟨a, h2, h4⟩
section
variable {K : PySem.W.Frag} {σ : L2.St} {H H' : Hp} {ta tb te tc : TE} {D : Ends} {tz : TS}
def EvAU (ta : TA) (σ : L2.St) (H : Hp) (xss : List (List V)) : Prop := ∀ H1, Ex H H1 → ∀ Q : List V → Hp → Prop, (∀ vs H2, Ex H1 H2 → Tups H2 vs xss → Q vs H2) → ta σ H1 Q
theorem eau_nil : EvAU tNil σ H [] := fun H1 _ _ q => q [] H1 (Ex.refl H1) trivial
theorem eau_cons {tr : TA} {xs : List V} {xss : List (List V)} (h : EvU te σ H xs) (hr : EvAU tr σ H xss) : EvAU (tCons te tr) σ H (xs :: xss) := fun H1 e _ q =>
  h H1 e _ fun p H2 _ e2 h2 => hr H2 (e.trans e2) _ fun vs H3 e3 h3 => q (.ref p :: vs) H3 (e2.trans e3) ⟨⟨p, rfl, e3 _ _ h2⟩, h3⟩
/-- a tuple that stands somewhere -/
def EvR (te : TE) (σ : L2.St) (H : Hp) (xs : List V) : Prop := ∀ H1, Ex H H1 → ∀ Q : VK, (∀ p H2, Ex H1 H2 → H2 p = some (.tup xs) → Q (.ref p) H2) → te σ H1 Q
/-- a tuple of tuples, and one of them -/
theorem er_ix {ta : TA} {xss : List (List V)} {xs : List V} {j : Nat} {i : Int} (h : EvAU ta σ H xss) (hl : xss.length ≤ 100000) (hi : Ev tb σ H (.int i)) (e : i = (j : Int)) (hx : xss[j]? = some xs) : EvR (tOp (rIxT K) (tTup ta) tb) σ H xs := fun H1 e1 Q q =>
  h H1 e1 _ fun vs H2 e2 h2 => ⟨sz_of (by rw [h2.len]; exact hl), fun p hp => hi (upd H2 p (.tup vs)) ((e1.trans e2).trans (Ex.new hp)) _ fun H3 e3 => by
    obtain ⟨a, h3, h4⟩ := (h2.mono ((Ex.new (o := .tup vs) hp).trans e3)).at hx
    refine ⟨p, vs, i, .ref a, rfl, rfl, st_of (e3 _ _ upd_same), ?_, q a H3 ((e2.trans (Ex.new hp)).trans e3) h4⟩
    rw [e]
    exact atI_nat h3⟩
/-- the first operand a new tuple -/
theorem ev_opU1 {xs : List V} {y z : V} {r : R2} (ha : EvU ta σ H xs) (hb : ∀ H1, Ex H H1 → Ev tb σ H1 y) (hr : ∀ p H1, H1 p = some (.tup xs) → Ex H H1 → RV r (.ref p) y H1 z) : Ev (tOp r ta tb) σ H z := by
  intro H1 e Q q
  refine ha H1 e _ fun p H2 _ e2 hp => ?_
  refine hb H2 (e.trans e2) H2 (Ex.refl H2) _ fun H3 e3 => ?_
  have e4 := e2.trans e3
  exact hr p H3 (e3 p _ hp) (e.trans e4) H3 (Ex.refl H3) Q fun H4 e5 => q H4 (e4.trans e5)
theorem q_tups {ta : TA} {xss : List (List V)} {i : Nat} (h : EvAU ta σ H xss) (hl : xss.length ≤ 100000) (k : ∀ p vs H1, Ex H H1 → H1 p = some (.tup vs) → Tups H1 vs xss → tz D (σ.set i (some (.ref p))) H1) : tSeq (tAsg (tTup ta) (gName i)) tz D σ H :=
  h H (Ex.refl H) _ fun vs H2 e2 h2 => ⟨sz_of (by rw [h2.len]; exact hl), fun p hp => k p vs _ (e2.trans (Ex.new hp)) upd_same (h2.mono (Ex.new hp))⟩
theorem er_at {xss : List (List V)} {xs vs : List V} {p : Addr} {j : Nat} {i : Int} (hv : Ev ta σ H (.ref p)) (hp : H p = some (.tup vs)) (ht : Tups H vs xss) (hi : Ev tb σ H (.int i)) (e : i = (j : Int)) (hx : xss[j]? = some xs) : EvR (tOp (rIxT K) ta tb) σ H xs := fun H1 e1 Q q =>
  hv H1 e1 _ fun H2 e2 => hi H2 (e1.trans e2) _ fun H3 e3 => by
    have e4 := (e1.trans e2).trans e3
    obtain ⟨a, h3, h4⟩ := (ht.mono e4).at hx
    refine ⟨p, vs, i, .ref a, rfl, rfl, st_of (e4 _ _ hp), ?_, q a H3 (e2.trans e3) h4⟩
    rw [e]
    exact atI_nat h3
theorem q_asgR {xs : List V} {i : Nat} (h : EvR te σ H xs) (k : ∀ p H1, Ex H H1 → H1 p = some (.tup xs) → tz D (σ.set i (some (.ref p))) H1) : tSeq (tAsg te (gName i)) tz D σ H := h H (Ex.refl H) _ fun p H1 e1 h1 => k p H1 e1 h1
theorem s_retR {xs : List V} (h : EvR te σ H xs) (k : ∀ p H1, Ex H H1 → H1 p = some (.tup xs) → D.rt (.ref p) H1) : tRet te D σ H := h H (Ex.refl H) _ k
def SpR (sp : Sp) (vs : List V) (H : Hp) (xs : List V) : Prop := ∀ H1, Ex H H1 → ∀ Q : VK, (∀ p H2, Ex H1 H2 → H2 p = some (.tup xs) → Q (.ref p) H2) → ∀ E : XK, sp vs H1 Q E
theorem er_call {sp : Sp} {dvs vs xs : List V} {E : XK} {ta : TA} (h : EvA ta σ H vs) (hs : SpR sp (vs ++ dvs) H xs) : EvR (tCall sp dvs E ta) σ H xs := fun H1 e Q q =>
  h H1 e _ fun H2 e2 => hs H2 (e.trans e2) Q (fun p H3 e3 h3 => q p H3 (e2.trans e3) h3) E
/-- a <= b <= c -/
theorem ev_chain {f g : Int → Int → Bool} {i j k : Int} (ha : Ev ta σ H (.int i)) (hb : Ev tb σ H (.int j)) (hc : Ev tc σ H (.int k)) : Ev (tChain (rI0 fun i j => .bl (f i j)) (rI0 fun i j => .bl (g i j)) ta tb tc) σ H (.bl (f i j && g j k)) := fun H1 e Q q =>
  ha H1 e _ fun H2 e2 => hb H2 (e.trans e2) _ fun H3 e3 => ⟨i, j, rfl, rfl, f i j, rfl, by
    cases hf : f i j with
    | true =>
      rw [if_pos rfl]
      exact hc H3 ((e.trans e2).trans e3) _ fun H4 e4 => ⟨j, k, rfl, rfl, by
        have z := q H4 ((e2.trans e3).trans e4)
        rw [hf] at z
        exact z⟩
    | false =>
      rw [if_neg (by decide)]
      have z := q H3 (e2.trans e3)
      rw [hf] at z
      exact z⟩
/-- [x, ..] * k -/
theorem el_rep {xs : List V} {k : Int} (ha : EvL ta σ H xs) (hb : Ev tb σ H (.int k)) (hk : 0 ≤ k ∧ k ≤ 100000) (hx : xs.length * k.toNat ≤ 100000) : EvL (tOp rRep ta tb) σ H (List.replicate k.toNat xs).flatten := fun H1 e Q q =>
  ha H1 e _ fun l H2 n2 e2 h2 => hb H2 (e.trans e2) _ fun H3 e3 => ⟨l, k, xs, rfl, rfl, e3 _ _ h2, by omega, by omega, sz_of hx, fun p hp => q p _ (fresh_back (e2.trans e3) hp) ((e2.trans e3).trans (Ex.new hp)) upd_same⟩
/-- [x, ..] + ys -/
theorem el_cat {xs ys : List V} {b : Addr} (ha : EvL ta σ H xs) (hb : Ev tb σ H (.ref b)) (h : H b = some (.lst ys)) (hz : xs.length + ys.length ≤ 100000) : EvL (tOp rCat ta tb) σ H (xs ++ ys) := fun H1 e Q q =>
  ha H1 e _ fun l H2 n2 e2 h2 => hb H2 (e.trans e2) _ fun H3 e3 => ⟨l, b, xs, ys, rfl, rfl, e3 _ _ h2, ((e.trans e2).trans e3) _ _ h, sz_of hz, fun p hp => q p _ (fresh_back (e2.trans e3) hp) ((e2.trans e3).trans (Ex.new hp)) upd_same⟩
/-- x is None -/
theorem ev_isN {x : V} (ha : Ev ta σ H x) : Ev (tOp (fun x y H Q => y = .non ∧ Q (.bl (decide (x = .non))) H) ta (tC .non)) σ H (.bl (decide (x = .non))) := fun H1 e Q q =>
  ha H1 e _ fun H2 e2 => ⟨rfl, q H2 e2⟩
end
/-- what a caller knows of a def -/
def Cal (P : Program) (w : World) (K : PySem.W.Frag) (mg : Str → Option Value) (base : Heap) (k : Nat) (x : Str) (ps : List Str) (sp : Sp) : Prop :=
  ∃ f fd, FnOk P w K mg base CX0 k f fd ps sp ∧ PySem.W.keepIn K (.ref f) = true ∧ Binds K fd ps [] ∧ mg x = some (.ref f)
section
variable {P : Program} {w : World} {K : PySem.W.Frag} {mg : Str → Option Value} {base : Heap}
/-! ### turned -/
def tI (w : Nat) (x y : Int) : List V := [.int (Sa48.turned w x y).1, .int (Sa48.turned w x y).2]
def spTurned : Sp := fun vs H Q _ => ∃ (w : Nat) (x y : Int), vs = [.int w, .int x, .int y] ∧ w < 8 ∧ ∀ p H', Ex H H' → H' p = some (.tup (tI w x y)) → Q (.ref p) H'
theorem tI_at {w : Nat} (hw : w < 8) (x y : Int) : ([[.int x, .int y], [.int (-y), .int x], [.int (-x), .int (-y)], [.int y, .int (-x)], [.int (-x), .int y], [.int x, .int (-y)], [.int y, .int x], [.int (-y), .int (-x)]] : List (List V))[w]? = some (tI w x y) := by
  have h : w = 0 ∨ w = 1 ∨ w = 2 ∨ w = 3 ∨ w = 4 ∨ w = 5 ∨ w = 6 ∨ w = 7 := by omega
  rcases h with rfl | rfl | rfl | rfl | rfl | rfl | rfl | rfl <;> rfl
theorem ok_turned {f : Addr} {fd : FuncData} (F : Fun K "turned" "turned" s_turned f fd) : FnOk P w K mg base CX0 1 f fd ["way", "x", "y"] spTurned := by
  refine F.ok sc_turned (fun vs H Q E h => ?_) (fun cdv A outer s H vs Q E hr h => ?_)
  · obtain ⟨w, x, y, rfl, _⟩ := h
    rfl
  · obtain ⟨w, x, y, rfl, hw, q⟩ := h
    refine ⟨_,
      (pss_cons (ps_set (i := 3) sc_turned.nd rfl (Or.inl rfl) (pe_tup (pa_cons (pe_tup (pa_cons (pv 1) (pa_cons (pv 2) pa_nil))) (pa_cons (pe_tup (pa_cons (pe_un un_neg (pv 2)) (pa_cons (pv 1) pa_nil))) (pa_cons (pe_tup (pa_cons (pe_un un_neg (pv 1)) (pa_cons (pe_un un_neg (pv 2)) pa_nil))) (pa_cons (pe_tup (pa_cons (pv 2) (pa_cons (pe_un un_neg (pv 1)) pa_nil))) (pa_cons (pe_tup (pa_cons (pe_un un_neg (pv 1)) (pa_cons (pv 2) pa_nil))) (pa_cons (pe_tup (pa_cons (pv 1) (pa_cons (pe_un un_neg (pv 2)) pa_nil))) (pa_cons (pe_tup (pa_cons (pv 2) (pa_cons (pv 1) pa_nil))) (pa_cons (pe_tup (pa_cons (pe_un un_neg (pv 2)) (pa_cons (pe_un un_neg (pv 1)) pa_nil))) pa_nil))))))))))
          (pss_one (ps_ret (pe_ix ix_tup (pv 3) (pv 0) (fun _ _ => rfl)))))
      , ?_⟩
    have two : ∀ {a b : V}, ([a, b] : List V).length ≤ 100000 := fun {a b} => by show 2 ≤ 100000; decide
    refine q_tups (eau_cons (eu_tup (ea_cons (ev_var rfl) (ea_cons (ev_var rfl) ea_nil)) two) (eau_cons (eu_tup (ea_cons (ev_un (ev_var rfl) ru_neg) (ea_cons (ev_var rfl) ea_nil)) two) (eau_cons (eu_tup (ea_cons (ev_un (ev_var rfl) ru_neg) (ea_cons (ev_un (ev_var rfl) ru_neg) ea_nil)) two)
      (eau_cons (eu_tup (ea_cons (ev_var rfl) (ea_cons (ev_un (ev_var rfl) ru_neg) ea_nil)) two) (eau_cons (eu_tup (ea_cons (ev_un (ev_var rfl) ru_neg) (ea_cons (ev_var rfl) ea_nil)) two) (eau_cons (eu_tup (ea_cons (ev_var rfl) (ea_cons (ev_un (ev_var rfl) ru_neg) ea_nil)) two)
      (eau_cons (eu_tup (ea_cons (ev_var rfl) (ea_cons (ev_var rfl) ea_nil)) two) (eau_cons (eu_tup (ea_cons (ev_un (ev_var rfl) ru_neg) (ea_cons (ev_un (ev_var rfl) ru_neg) ea_nil)) two) eau_nil)))))))) (by show 8 ≤ 100000; decide) fun p vs H1 e1 hp ht => ?_
    exact s_retR (er_at (ev_var rfl) hp ht (ev_var rfl) rfl (tI_at hw x y)) fun p2 H2 e2 h2 => q p2 H2 (e1.trans e2) h2
/-! ### taken -/
def spTaken : Sp := fun vs H Q _ => ∃ (n w : Nat) (a b : Int) (k : Nat), vs = [.int n, .int w, .int a, .int b, .int k] ∧ 1 ≤ n ∧ n ≤ 64 ∧ w < 8 ∧ ∀ H', Ex H H' → Q (.int (pl n w a b k : Nat)) H'
theorem pl_int {n : Nat} (n1 : 1 ≤ n) (w : Nat) (a b : Int) (k : Nat) : ((pl n w a b k : Nat) : Int) = ((Sa48.turned w ((k : Int) % (n : Int)) ((k : Int) / (n : Int))).2 + b) % (n : Int) * (n : Int) + ((Sa48.turned w ((k : Int) % (n : Int)) ((k : Int) / (n : Int))).1 + a) % (n : Int) := by
  unfold pl Sa48Neutral.place Sa48.Move.takes
  dsimp only
  rw [Int.natCast_add, Int.natCast_mul, Int.natCast_emod, Int.natCast_ediv, Int.toNat_of_nonneg (Int.emod_nonneg _ (by omega)), Int.toNat_of_nonneg (Int.emod_nonneg _ (by omega))]
theorem ok_taken (C_turned : Cal P w K mg base 1 "turned" ["way", "x", "y"] spTurned) {f : Addr} {fd : FuncData} (F : Fun K "taken" "taken" s_taken f fd) : FnOk P w K mg base CX0 2 f fd ["n", "way", "a", "b", "place"] spTaken := by
  obtain ⟨f_turned, fd_turned, G_turned, kp_turned, b_turned, g_turned⟩ := C_turned
  refine F.ok sc_taken (fun vs H Q E h => ?_) (fun cdv A outer s H vs Q E hr h => ?_)
  · obtain ⟨n, w, a, b, k, rfl, _⟩ := h
    rfl
  · obtain ⟨n, w, a, b, k, rfl, n1, n6, hw, q⟩ := h
    refine ⟨_,
      (pss_cons (ps_set (i := 5) sc_taken.nd rfl (Or.inl rfl) (pe_call G_turned (hr.mono (by decide)) (by rfl) g_turned kp_turned b_turned .nil pass0 (pa_cons (pv 1) (pa_cons (pe_op op_mod (pv 4) (pv 0)) (pa_cons (pe_op op_fdiv (pv 4) (pv 0)) pa_nil)))))
          (pss_one (ps_ret (pe_op op_add (pe_op op_mul (pe_op op_mod (pe_op op_add (pe_ix ix_tup (pv 5) pe_int (fun _ _ => rfl)) (pv 3)) (pv 0)) (pv 0)) (pe_op op_mod (pe_op op_add (pe_ix ix_tup (pv 5) pe_int (fun _ _ => rfl)) (pv 2)) (pv 0))))))
      , ?_⟩
    refine q_asgR (er_call (ea_cons (ev_var rfl) (ea_cons (ev_op (ev_var rfl) (ev_var rfl) (rv_I (i := (k : Int)) (j := (n : Int)) (by omega))) (ea_cons (ev_op (ev_var rfl) (ev_var rfl) (rv_I (i := (k : Int)) (j := (n : Int)) ⟨by omega, by omega⟩)) ea_nil)))
      (xs := tI w ((k : Int) % (n : Int)) ((k : Int) / (n : Int))) fun H1 e1 Q q E => ⟨w, (k : Int) % (n : Int), (k : Int) / (n : Int), rfl, hw, fun p H2 e2 h2 => q p H2 e2 h2⟩) fun p H1 e1 hp => ?_
    refine s_ret (ev_op (ev_op (ev_op (ev_op (ev_op (ev_var rfl) ev_c (rv_ixT (v := .int (Sa48.turned w ((k : Int) % (n : Int)) ((k : Int) / (n : Int))).2) (st_of hp) (atI_nat (j := 1) rfl))) (ev_var rfl) rv_I0) (ev_var rfl) (rv_I (j := (n : Int)) (by omega))) (ev_var rfl) (rv_I (j := (n : Int)) (Or.inr ⟨by omega, by omega⟩)))
      (ev_op (ev_op (ev_op (ev_var rfl) ev_c (rv_ixT (v := .int (Sa48.turned w ((k : Int) % (n : Int)) ((k : Int) / (n : Int))).1) (st_of hp) (atI_nat (j := 0) rfl))) (ev_var rfl) rv_I0) (ev_var rfl) (rv_I (j := (n : Int)) (by omega))) rv_I0) fun H2 e2 => ?_
    have z := q H2 (e1.trans e2)
    rw [pl_int n1] at z
    exact z
theorem spTaken_W {H : Hp} {n w : Nat} {a b : Int} {k : Nat} (n1 : 1 ≤ n) (n64 : n ≤ 64) (hw : w < 8) : SpV spTaken ([.int n, .int w, .int a, .int b, .int k] ++ []) H (.int (pl n w a b k : Nat)) :=
  fun _ _ _ q _ => ⟨n, w, a, b, k, rfl, n1, n64, hw, fun H2 e2 => q H2 e2⟩
theorem spTaken_V {H : Hp} {n w : Nat} {a b : Int} {k : Nat} (n1 : 1 ≤ n) (n6 : n ≤ 6) (hw : w < 8) : SpV spTaken ([.int n, .int w, .int a, .int b, .int k] ++ []) H (.int (pl n w a b k : Nat)) := spTaken_W n1 (by omega) hw
end
/-- what is asked of a call -/
def Asked (m : Int) (c : List Int) : Prop := (m < 1 ∨ 64 < m) ∨ ∃ n : Nat, m = (n : Int) ∧ Rq n c
theorem asked_is {m : Int} {c : List Int} (h : Sa48Neutral.square m c = true) : Asked m c := by
  unfold Sa48Neutral.square at h
  rw [Bool.and_eq_true, Bool.and_eq_true] at h
  obtain ⟨_, h2, h3⟩ := h
  by_cases hm : 1 ≤ m ∧ m ≤ 64
  · rw [if_pos hm, Bool.and_eq_true, decide_eq_true_iff, decide_eq_true_iff] at h3
    refine .inr ⟨m.toNat, by omega, ⟨by omega, by omega, ?_, fun z hz => ?_⟩⟩
    · have e : ((m.toNat : Nat) : Int) = m := Int.toNat_of_nonneg (by omega)
      have e2 : ((m.toNat * m.toNat : Nat) : Int) = m * m := by rw [Int.natCast_mul, e]
      omega
    · have z1 := List.all_eq_true.mp h2 z hz
      unfold Sa48Neutral.natural at z1
      rw [Bool.and_eq_true, decide_eq_true_iff] at z1
      exact z1.1
  · exact .inl (by omega)

section
variable {P : Program} {w : World} {K : PySem.W.Frag} {mg : Str → Option Value} {base : Heap}
/-! ### is_side -/
def spSide : Sp := fun vs H Q _ => ∃ m : Int, vs = [.int m] ∧ ∀ H', Ex H H' → Q (.bl (decide (1 ≤ m) && decide (m ≤ 64))) H'
theorem ok_side {f : Addr} {fd : FuncData} (F : Fun K "is_side" "is_side" s_is_side f fd) : FnOk P w K mg base CX0 1 f fd ["n"] spSide := by
  refine F.ok sc_is_side (fun vs H Q E h => ?_) (fun cdv A outer s H vs Q E hr h => ?_)
  · obtain ⟨m, rfl, _⟩ := h
    rfl
  · obtain ⟨m, rfl, q⟩ := h
    refine ⟨_,
      (pss_one (ps_ret (pe_chain op_le op_le pe_int (pv 0) pe_int)))
      , ?_⟩
    exact s_ret (ev_chain ev_c (ev_var rfl) ev_c) fun H1 e1 => q H1 e1
theorem spSide_V {H : Hp} (m : Int) : SpV spSide ([.int m] ++ []) H (.bl (decide (1 ≤ m) && decide (m ≤ 64))) := fun _ _ _ q _ => ⟨m, rfl, fun H2 e2 => q H2 e2⟩
theorem not_side {m : Int} (h : (!(decide (1 ≤ m) && decide (m ≤ 64))) = true) : m < 1 ∨ 64 < m := by
  rw [Bool.not_eq_true', Bool.and_eq_false_iff, decide_eq_false_iff_not, decide_eq_false_iff_not] at h
  omega
theorem is_side {m : Int} (h : (!(decide (1 ≤ m) && decide (m ≤ 64))) = false) : 1 ≤ m ∧ m ≤ 64 := by
  rw [Bool.not_eq_false', Bool.and_eq_true, decide_eq_true_iff, decide_eq_true_iff] at h
  exact h
end

section
variable {P : Program} {w : World} {K : PySem.W.Frag} {mg : Str → Option Value} {base : Heap}
/-! ### movements, in the program's order -/
abbrev M3 := Nat × Nat × Nat
def tri (m : M3) : List V := [.int m.1, .int m.2.1, .int m.2.2]
def mvI (w b i : Nat) : List M3 := (List.range i).map fun a => (w, a, b)
def mvJ (n w j : Nat) : List M3 := (List.range j).flatMap fun b => mvI w b n
def mv (n k : Nat) : List M3 := (List.range k).flatMap fun w => mvJ n w n
theorem mem_mv {n k : Nat} {m : M3} : m ∈ mv n k ↔ m.1 < k ∧ m.2.1 < n ∧ m.2.2 < n := by
  unfold mv mvJ mvI
  simp only [List.mem_flatMap, List.mem_map, List.mem_range]
  constructor
  · rintro ⟨w, hw, b, hb, a, ha, rfl⟩
    exact ⟨hw, ha, hb⟩
  · rintro ⟨hw, ha, hb⟩
    exact ⟨m.1, hw, m.2.2, hb, m.2.1, ha, rfl⟩
theorem mvI_succ (w b i : Nat) : mvI w b (i + 1) = mvI w b i ++ [(w, i, b)] := by
  unfold mvI
  rw [List.range_succ, List.map_append]
  rfl
theorem mvJ_succ (n w j : Nat) : mvJ n w (j + 1) = mvJ n w j ++ mvI w j n := by
  unfold mvJ
  rw [List.range_succ, List.flatMap_append, List.flatMap_singleton]
theorem mv_succ (n k : Nat) : mv n (k + 1) = mv n k ++ mvJ n k n := by
  unfold mv
  rw [List.range_succ, List.flatMap_append, List.flatMap_singleton]
theorem mvI_len (w b i : Nat) : (mvI w b i).length = i := by
  unfold mvI
  rw [List.length_map, List.length_range]
theorem mvJ_len (n w : Nat) : ∀ j, (mvJ n w j).length = j * n
  | 0 => (Nat.zero_mul n).symm
  | j + 1 => by rw [mvJ_succ, List.length_append, Nat.add_mul, Nat.one_mul, mvJ_len n w j, mvI_len]
theorem mv_len (n : Nat) : ∀ k, (mv n k).length = k * (n * n)
  | 0 => (Nat.zero_mul _).symm
  | k + 1 => by rw [mv_succ, List.length_append, Nat.add_mul, Nat.one_mul, mv_len n k, mvJ_len]
/-- how many of the eight count -/
def cn (w : Nat) : Nat := if w = 0 then 1 else if w = 1 then 4 else 8
theorem cn_le (w : Nat) : 1 ≤ cn w ∧ cn w ≤ 8 := by
  unfold cn
  split
  · omega
  · split <;> omega
theorem cn_at {w : Nat} (hw : w ≤ 2) : ([.int 1, .int 4, .int 8] : List V)[w]? = some (.int (cn w : Nat)) := by
  have h : w = 0 ∨ w = 1 ∨ w = 2 := by omega
  rcases h with rfl | rfl | rfl <;> rfl
def spMv : Sp := fun vs H Q _ => ∃ (n w : Nat), vs = [.int n, .int w] ∧ 1 ≤ n ∧ n ≤ 8 ∧ w ≤ 2 ∧
  ∀ l xs H', H l = none → Ex H H' → H' l = some (.lst xs) → Tups H' xs ((mv n (cn w)).map tri) → Q (.ref l) H'
/-- the list that grows: what stands at l is ms, so far -/
structure Gr (H0 H' : Hp) (l : Addr) (ms : List M3) : Prop where
  new : H0 l = none
  ex : Ex H0 H'
  is : ∃ xs, H' l = some (.lst xs) ∧ Tups H' xs (ms.map tri)
theorem Gr.mono {H0 H1 H2 : Hp} {l : Addr} {ms : List M3} (g : Gr H0 H1 l ms) (e : Ex H1 H2) : Gr H0 H2 l ms := by
  obtain ⟨xs, h1, h2⟩ := g.is
  exact ⟨g.new, g.ex.trans e, xs, e _ _ h1, h2.mono e⟩
theorem Gr.to {H0 H1 : Hp} {l : Addr} {ms ms' : List M3} (g : Gr H0 H1 l ms) (e : ms = ms') : Gr H0 H1 l ms' := e ▸ g
theorem ok_mv {f : Addr} {fd : FuncData} (F : Fun K "movements_by" "movements_by" s_movements_by f fd) (m_range : mg "range" = none) : FnOk P w K mg base CX0 1 f fd ["n", "what"] spMv := by
  refine F.ok sc_movements_by (fun vs H Q E h => ?_) (fun cdv A outer s H vs Q E hr h => ?_)
  · obtain ⟨n, w, rfl, _⟩ := h
    rfl
  · obtain ⟨n, w, rfl, n1, n8, hw, q⟩ := h
    have nn : n * n ≤ 64 := Nat.mul_le_mul n8 n8
    have c8 := cn_le w
    refine ⟨_,
      (pss_cons (ps_set (i := 2) sc_movements_by.nd rfl (Or.inl rfl) (pe_lst pa_nil))
          (pss_cons (ps_for PassesOwn.never rfl (pi_range1 rfl m_range (pa_cons (pe_ix ix_tup (pe_tup (pa_cons pe_int (pa_cons pe_int (pa_cons pe_int pa_nil)))) (pv 1) (fun _ _ => rfl)) pa_nil)) (pg_name (i := 3) sc_movements_by.nd rfl (Or.inl rfl))
            (pss_one (ps_for PassesOwn.never rfl (pi_range1 rfl m_range (pa_cons (pv 0) pa_nil)) (pg_name (i := 4) sc_movements_by.nd rfl (Or.inl rfl))
            (pss_one (ps_for PassesOwn.never rfl (pi_range1 rfl m_range (pa_cons (pv 0) pa_nil)) (pg_name (i := 5) sc_movements_by.nd rfl (Or.inl rfl))
            (pss_one (ps_expr (pe_bm PySem.F.plainAttrs_list PySem.F.slot_list_append PySem.F.type_list_append mt_append (pv 2) (pa_cons (pe_tup (pa_cons (pv 3) (pa_cons (pv 5) (pa_cons (pv 4) pa_nil)))) pa_nil)))))))))
          (pss_one (ps_ret (pv 2)))))
      , ?_⟩
    refine q_asgL (el_lst ea_nil (by show 0 ≤ 100000; decide)) fun l H1 hl e1 h1 => ?_
    refine q_forR1 (n := (cn w : Nat)) (ea_cons (ev_opU1 (eu_tup (ea_cons ev_c (ea_cons ev_c (ea_cons ev_c ea_nil))) (by show 3 ≤ 100000; decide)) (fun H1 _ => ev_var rfl) fun p H1 hp _ => rv_ixT (st_of hp) (atI_nat (cn_at hw))) ea_nil) ⟨by omega, by omega⟩
      (fun k σ' H' => ∃ s3 s4 s5, σ' = [some (.int n), some (.int w), some (.ref l), s3, s4, s5] ∧ Gr H H' l (mv n k))
      (fun H2 e2 => ⟨none, none, none, rfl, ⟨hl, e1.trans e2, [], e2 _ _ h1, trivial⟩⟩) ?_ ?_
    · rintro k σ' H' hk ⟨s3, s4, s5, rfl, g1⟩
      have lk : (mv n k).length ≤ 8 * (n * n) := by rw [mv_len]; exact Nat.mul_le_mul_right _ (by omega)
      refine s_forR1 (n := (n : Int)) (ea_cons (ev_var rfl) ea_nil) ⟨by omega, by omega⟩
        (fun j σ' H' => ∃ s4 s5, σ' = [some (.int n), some (.int w), some (.ref l), some (.int k), s4, s5] ∧ Gr H H' l (mv n k ++ mvJ n k j))
        (fun H2 e2 => ⟨s4, s5, rfl, (g1.mono e2).to (List.append_nil _).symm⟩) ?_ ?_
      · rintro j σ' H' hj ⟨s4, s5, rfl, g2⟩
        have lj : (mvJ n k j).length ≤ n * n := by rw [mvJ_len]; exact Nat.mul_le_mul_right n (show j ≤ n by omega)
        refine s_forR1 (n := (n : Int)) (ea_cons (ev_var rfl) ea_nil) ⟨by omega, by omega⟩
          (fun i σ' H' => ∃ s5, σ' = [some (.int n), some (.int w), some (.ref l), some (.int k), some (.int j), s5] ∧ Gr H H' l (mv n k ++ mvJ n k j ++ mvI k j i))
          (fun H2 e2 => ⟨s5, rfl, (g2.mono e2).to (List.append_nil _).symm⟩) ?_ ?_
        · rintro i σ' H' hi ⟨s5, rfl, g3⟩
          have li := mvI_len k j i
          obtain ⟨xs, h4, h5⟩ := g3.is
          refine s_appU (xs := xs) h4 (ev_var rfl) (eu_tup (ea_cons (ev_var rfl) (ea_cons (ev_var rfl) (ea_cons (ev_var rfl) ea_nil))) (by show 3 ≤ 100000; decide)) ?_ ?_
          · rw [h5.len, List.length_map, List.length_append, List.length_append]
            omega
          · intro p H4 hp4 e4 h6
            refine ⟨_, rfl, ⟨g3.new, (g3.ex.trans e4).mut g3.new, _, upd_same, ?_⟩⟩
            rw [mvI_succ, ← List.append_assoc, List.map_append]
            exact ((h5.mono e4).app h6).upd (e4 _ _ h4)
        · rintro σ' H' ⟨s5, rfl, g3⟩
          exact ⟨_, _, rfl, g3.to (by rw [mvJ_succ, List.append_assoc]; rfl)⟩
      · rintro σ' H' ⟨s4, s5, rfl, g2⟩
        exact ⟨_, _, _, rfl, g2.to (by rw [mv_succ]; rfl)⟩
    · rintro σ' H' ⟨s3, s4, s5, rfl, g1⟩
      rw [Int.toNat_natCast] at g1
      refine s_ret (ev_var rfl) fun H2 e2 => ?_
      obtain ⟨xs, h4, h5⟩ := (g1.mono e2).is
      exact q l xs H2 g1.new (g1.ex.trans e2) h4 h5
/-! ### a comprehension over the movements -/
/-- what a reading gives is one of I -/
def EvI (te : TE) (σ : L2.St) (H : Hp) (I : V → Hp → Prop) : Prop := ∀ H1, Ex H H1 → ∀ Q : VK, (∀ y H2, Ex H1 H2 → I y H2 → Q y H2) → te σ H1 Q
def Its (It : M3 → V → Hp → Prop) (H : Hp) : List V → List M3 → Prop
  | [], [] => True
  | y :: ys, m :: ms => It m y H ∧ Its It H ys ms
  | _, _ => False
/-- what an item is lasts -/
structure Lasts (It : M3 → V → Hp → Prop) : Prop where
  ex : ∀ {m y H H'}, It m y H → Ex H H' → It m y H'
  up : ∀ {m y H D ys o}, It m y H → H D = some (.lst ys) → It m y (upd H D o)
theorem Its.mono {It : M3 → V → Hp → Prop} (L : Lasts It) {H H' : Hp} (e : Ex H H') : ∀ {ys : List V} {ms : List M3}, Its It H ys ms → Its It H' ys ms
  | [], [], _ => trivial
  | _ :: _, _ :: _, ⟨h1, h2⟩ => ⟨L.ex h1 e, Its.mono L e h2⟩
theorem Its.up {It : M3 → V → Hp → Prop} (L : Lasts It) {H : Hp} {D : Addr} {zs : List V} {o : HO} (h : H D = some (.lst zs)) : ∀ {ys : List V} {ms : List M3}, Its It H ys ms → Its It (upd H D o) ys ms
  | [], [], _ => trivial
  | _ :: _, _ :: _, ⟨h1, h2⟩ => ⟨L.up h1 h, Its.up L h h2⟩
theorem Its.app {It : M3 → V → Hp → Prop} {H : Hp} {y : V} {m : M3} (h : It m y H) : ∀ {ys : List V} {ms : List M3}, Its It H ys ms → Its It H (ys ++ [y]) (ms ++ [m])
  | [], [], _ => ⟨h, trivial⟩
  | _ :: _, _ :: _, ⟨h1, h2⟩ => ⟨h1, Its.app h h2⟩
theorem Its.len {It : M3 → V → Hp → Prop} {H : Hp} : ∀ {ys : List V} {ms : List M3}, Its It H ys ms → ys.length = ms.length
  | [], [], _ => rfl
  | _ :: _, _ :: _, ⟨_, h⟩ => congrArg (· + 1) h.len
/-- an item that stands for a tuple -/
def IsTup (f : M3 → List V) (m : M3) (y : V) (H : Hp) : Prop := ∃ a, y = .ref a ∧ H a = some (.tup (f m))
theorem isTup_lasts (f : M3 → List V) : Lasts (IsTup f) := ⟨fun ⟨a, h1, h2⟩ e => ⟨a, h1, e _ _ h2⟩, fun ⟨a, h1, h2⟩ h => ⟨a, h1, by
  rw [upd_ne (fun z => by rw [z, h] at h2; cases h2)]
  exact h2⟩⟩
theorem Its.tups {f : M3 → List V} {H : Hp} : ∀ {ys : List V} {ms : List M3}, Its (IsTup f) H ys ms → Tups H ys (ms.map f)
  | [], [], _ => trivial
  | _ :: _, _ :: _, ⟨h1, h2⟩ => ⟨h1, h2.tups⟩
/-- an item that is a value of its own -/
def IsVal (f : M3 → V) (m : M3) (y : V) (_ : Hp) : Prop := y = f m
theorem isVal_lasts (f : M3 → V) : Lasts (IsVal f) := ⟨fun h _ => h, fun h _ => h⟩
theorem Its.vals {f : M3 → V} {H : Hp} : ∀ {ys : List V} {ms : List M3}, Its (IsVal f) H ys ms → ys = ms.map f
  | [], [], _ => rfl
  | _ :: _, _ :: _, ⟨h1, h2⟩ => by rw [List.map_cons, h2.vals, show _ = _ from h1]
theorem take_filter {q : M3 → Bool} {ms : List M3} {i : Nat} {m : M3} (h : ms[i]? = some m) : (ms.take (i + 1)).filter q = (ms.take i).filter q ++ if q m = true then [m] else [] := by
  rw [List.take_add_one, h, List.filter_append]
  congr 1
  show List.filter q [m] = _
  rw [List.filter_cons]
  rfl
/-- a reading that gives a list of the movements ms -/
def EvM (tl : TE) (σ : L2.St) (H : Hp) (ms : List M3) : Prop := ∀ H1, Ex H H1 → ∀ Q : VK, (∀ l fs H2, Ex H1 H2 → H2 l = some (.lst fs) → Tups H2 fs (ms.map tri) → Q (.ref l) H2) → tl σ H1 Q
theorem em_var {i : Nat} {l : Addr} {fs : List V} {σ : L2.St} {H : Hp} {ms : List M3} (h : σ[i]? = some (some (.ref l))) (hl : H l = some (.lst fs)) (tf : Tups H fs (ms.map tri)) : EvM (tVar i) σ H ms :=
  fun H1 e1 Q k => ⟨_, h, k l fs H1 (Ex.refl _) (e1 _ _ hl) (tf.mono e1)⟩
theorem em_mv {n w : Nat} {ta : TA} {σ : L2.St} {H : Hp} {dvs : List V} {E : XK} (h : EvA ta σ H [.int n, .int w]) (hd : dvs = []) (n1 : 1 ≤ n) (n8 : n ≤ 8) (hw : w ≤ 2) : EvM (tCall spMv dvs E ta) σ H (mv n (cn w)) := by
  subst hd
  exact fun H1 e1 Q k => h H1 e1 _ fun H2 e2 => ⟨n, w, rfl, n1, n8, hw, fun l xs H3 _ e3 h3 t3 => k l xs H3 (e2.trans e3) h3 t3⟩
theorem q_asgM {tl : TE} {tz : TS} {D : Ends} {σ : L2.St} {H : Hp} {i : Nat} {ms : List M3} (h : EvM tl σ H ms) (k : ∀ l fs H1, Ex H H1 → H1 l = some (.lst fs) → Tups H1 fs (ms.map tri) → tz D (σ.set i (some (.ref l))) H1) : tSeq (tAsg tl (gName i)) tz D σ H := h H (Ex.refl H) _ k
/-- .. that gives a new list of what It says of those that the test keeps -/
def EvIts (te : TE) (σ : L2.St) (H : Hp) (It : M3 → V → Hp → Prop) (ms : List M3) : Prop := ∀ H1, Ex H H1 → ∀ Q : VK, (∀ D ys H2, H1 D = none → Ex H1 H2 → H2 D = some (.lst ys) → Its It H2 ys ms → Q (.ref D) H2) → te σ H1 Q
theorem el_mv {g : TG} {tt : TT} {tl te : TE} {vs : List Nat} {σ : L2.St} {H : Hp} {ms : List M3} (σm : M3 → Addr → L2.St) (q : M3 → Bool) (It : M3 → V → Hp → Prop) (L : Lasts It) (hm : EvM tl σ H ms) (hz : ms.length ≤ 40000)
    (hg : ∀ m ta H' (R : L2.St → Hp → Prop), H' ta = some (.tup (tri m)) → R (σm m ta) H' → g (.ref ta) (wipe σ vs) H' R) (hw : ∀ m ta, wipe (σm m ta) vs = wipe σ vs)
    (ht : ∀ m ta H1, m ∈ ms → Ex H H1 → H1 ta = some (.tup (tri m)) → EvT tt (σm m ta) H1 (q m)) (he : ∀ m ta H1, m ∈ ms → q m = true → Ex H H1 → H1 ta = some (.tup (tri m)) → EvI te (σm m ta) H1 (It m)) :
    EvIts (tLc (iList K tl) g tt te vs) σ H It (ms.filter q) := fun H0 e0 Q hQ => hm H0 e0 _ fun l fs H1 e1 hl tf => by
  have hlen := tf.len
  rw [List.length_map] at hlen
  refine ⟨l, rfl, ⟨fs, sq_of hl⟩, fun D hD => ?_⟩
  refine lc_list (Qd := fun H => Q (.ref D) H) (xs := fs) (fun i H' => Ex H1 H' ∧ ∃ acc, H' D = some (.lst acc) ∧ acc.length ≤ i ∧ Its It H' acc ((ms.take i).filter q)) ⟨Ex.new hD, [], upd_same, Nat.le_refl _, trivial⟩
    (fun i H' _ p => sq_of (p.1 _ _ hl)) (fun i x H' hi p => ?_) (fun H' p => ?_)
  · obtain ⟨e2, acc, h1, h2, h3⟩ := p
    have e02 := (e0.trans e1).trans e2
    obtain ⟨zs, ta, hz1, rfl, hta⟩ := (tf.mono e2).get hi
    rw [List.getElem?_map] at hz1
    obtain ⟨m, hm, rfl⟩ := Option.map_eq_some_iff.mp hz1
    have hmem := List.mem_of_getElem? hm
    have il : i < fs.length := (List.getElem?_eq_some_iff.mp hi).1
    refine hg m ta H' _ hta ⟨hw m ta, ?_⟩
    refine ht m ta H' hmem e02 hta H' (Ex.refl _) _ fun H3 e3 => ?_
    have tk := take_filter (q := q) hm
    cases hq : q m with
    | true =>
      rw [if_pos rfl]
      rw [hq, if_pos rfl] at tk
      refine he m ta H' hmem hq e02 hta H3 e3 _ fun y H4 e4 hy => ⟨acc, e4 _ _ (e3 _ _ h1), sz_lt (by omega), ((e2.trans e3).trans e4).mut hD, _, upd_same, by rw [List.length_append]; show acc.length + 1 ≤ i + 1; omega, ?_⟩
      rw [tk]
      have i1 := Its.app hy (Its.mono L (e3.trans e4) h3)
      exact Its.up L (e4 _ _ (e3 _ _ h1)) i1
    | false =>
      rw [if_neg (by decide)]
      rw [hq, if_neg (by decide), List.append_nil] at tk
      refine ⟨e2.trans e3, acc, e3 _ _ h1, by omega, ?_⟩
      rw [tk]
      exact Its.mono L e3 h3
  · obtain ⟨e2, acc, h1, _, h3⟩ := p
    rw [hlen, List.take_length] at h3
    exact hQ D acc H' (fresh_back e1 hD) (e1.trans e2) h1 h3
/-- .. where each item is a value of its own -/
theorem EvIts.list {te : TE} {σ : L2.St} {H : Hp} {f : M3 → V} {ms : List M3} (h : EvIts te σ H (IsVal f) ms) : EvL te σ H (ms.map f) := fun H1 e Q q => h H1 e Q fun D ys H2 hD e2 h2 i2 => q D H2 hD e2 (by rw [h2, i2.vals])
end

/-! ### is_what -/
section
variable {P : Program} {w : World} {K : PySem.W.Frag} {mg : Str → Option Value} {base : Heap}
def spWhat : Sp := fun vs H Q _ => ∃ m : Int, vs = [.int m] ∧ ∀ H', Ex H H' → Q (.bl (decide (0 ≤ m) && decide (m ≤ 2))) H'
theorem ok_what {f : Addr} {fd : FuncData} (F : Fun K "is_what" "is_what" s_is_what f fd) : FnOk P w K mg base CX0 1 f fd ["what"] spWhat := by
  refine F.ok sc_is_what (fun vs H Q E h => ?_) (fun cdv A outer s H vs Q E hr h => ?_)
  · obtain ⟨m, rfl, _⟩ := h
    rfl
  · obtain ⟨m, rfl, q⟩ := h
    refine ⟨_,
      (pss_one (ps_ret (pe_chain op_le op_le pe_int (pv 0) pe_int)))
      , ?_⟩
    exact s_ret (ev_chain ev_c (ev_var rfl) ev_c) fun H1 e1 => q H1 e1
theorem spWhat_V {H : Hp} (m : Int) : SpV spWhat ([.int m] ++ []) H (.bl (decide (0 ≤ m) && decide (m ≤ 2))) := fun _ _ _ q _ => ⟨m, rfl, fun H2 e2 => q H2 e2⟩
end

section
variable {P : Program} {w : World} {K : PySem.W.Frag} {mg : Str → Option Value} {base : Heap}
/-! ### made -/
def ups (q : List Nat) : List Int := q.map fun (x : Nat) => (x : Int)
/-- the square that a movement makes -/
def sq (n : Nat) (c : List Int) (w : Nat) (a b : Int) : List Int := ups (Sa48Neutral.made (Pt n c) w a b)
theorem pl_inj {n w : Nat} (hw : w < 8) {a b : Int} {i j : Nat} (hi : i < n * n) (hj : j < n * n) (e : pl n w a b i = pl n w a b j) : i = j := by
  have e1 := MM.place_inv (p := ⟨n, []⟩) hw a b hi
  have e2 := MM.place_inv (p := ⟨n, []⟩) hw a b hj
  have e : Sa48Neutral.place ⟨n, []⟩ w a b i = Sa48Neutral.place ⟨n, []⟩ w a b j := e
  rw [← e1, ← e2, e]
/-- the list behind all its places -/
theorem sq_is {n : Nat} {c : List Int} (R : Rq n c) {w : Nat} (hw : w < 8) {a b : Int} {ys : List Int} (hl : ys.length = n * n) (h : ∀ k, k < n * n → ys[pl n w a b k]? = some (gt c k)) : ys = sq n c w a b := by
  obtain ⟨m1, m2⟩ := LM.made_len (p := Pt n c) hw a b
  have m1 : (Sa48Neutral.made (Pt n c) w a b).length = n * n := m1
  have n1 := R.lo
  refine List.ext_getElem? fun j => ?_
  unfold sq ups
  by_cases hj : j < n * n
  · have back := LM.place_inv' (p := ⟨n, []⟩) hw a b (k := j) hj
    have lt := MM.place_lt (p := ⟨n, []⟩) (show 0 < n by omega) (MM.inv w) (MM.iu w a b) (MM.iv w a b) j
    generalize Sa48Neutral.place ⟨n, []⟩ (MM.inv w) (MM.iu w a b) (MM.iv w a b) j = k at back lt
    have lt : k < n * n := lt
    have back : pl n w a b k = j := back
    have e2 : (Sa48Neutral.made (Pt n c) w a b)[pl n w a b k]? = some ((Sa48Neutral.nats c).getD k 0) := m2 k lt
    have e1 := h k lt
    rw [back] at e1 e2
    rw [e1, List.getElem?_map, e2, getD_nats]
    have g := gt_nn R.nn k
    show some (gt c k) = some (((gt c k).toNat : Nat) : Int)
    rw [Int.toNat_of_nonneg g]
  · rw [List.getElem?_eq_none (by omega), List.getElem?_eq_none (by rw [List.length_map]; omega)]
def spMade (K : PySem.W.Frag) : Sp := fun vs H Q _ => ∃ (ad : Addr) (n : Nat) (c : List Int) (w : Nat) (a b : Int), vs = [.int n, .ref ad, .int w, .int a, .int b] ∧ SqL K H ad (c.map V.int) ∧ Rq n c ∧ w < 8 ∧ RetL ((sq n c w a b).map V.int) H Q
theorem ok_made (C_taken : Cal P w K mg base 2 "taken" ["n", "way", "a", "b", "place"] spTaken) {f : Addr} {fd : FuncData} (F : Fun K "made" "made" s_made f fd) (m_range : mg "range" = none) (m_list : mg "list" = none) : FnOk P w K mg base CX0 3 f fd ["n", "p", "way", "a", "b"] (spMade K) := by
  obtain ⟨f_taken, fd_taken, G_taken, kp_taken, b_taken, g_taken⟩ := C_taken
  refine F.ok sc_made (fun vs H Q E h => ?_) (fun cdv A outer s H vs Q E hr h => ?_)
  · obtain ⟨ad, n, c, w, a, b, rfl, _⟩ := h
    rfl
  · obtain ⟨ad, n, c, w, a, b, rfl, hS, R, hw, q⟩ := h
    have n1 := R.lo
    have n6 := R.hi
    have nn : n * n ≤ 36 := Nat.mul_le_mul n6 n6
    have nm : (n : Int) * (n : Int) = ((n * n : Nat) : Int) := (Int.natCast_mul n n).symm
    refine ⟨_,
      (pss_cons (ps_set (i := 5) sc_made.nd rfl (Or.inl rfl) (pe_callTy call_list_of (by rfl) m_list (by decide +kernel) (pa_cons (pv 1) pa_nil)))
          (pss_cons (ps_for PassesOwn.never rfl (pi_range1 rfl m_range (pa_cons (pe_op op_mul (pv 0) (pv 0)) pa_nil)) (pg_name (i := 6) sc_made.nd rfl (Or.inl rfl))
            (pss_one (ps_asg (pe_ix ix_list (pv 1) (pv 6) (fun _ _ => rfl)) (pg_sub (pv 5) (pe_call G_taken (hr.mono (by decide)) (by rfl) g_taken kp_taken b_taken .nil pass0 (pa_cons (pv 0) (pa_cons (pv 2) (pa_cons (pv 3) (pa_cons (pv 4) (pa_cons (pv 6) pa_nil)))))) set_list))))
          (pss_one (ps_ret (pv 5)))))
      , ?_⟩
    refine q_asgL (el_list (ev_var rfl) hS) fun l H1 hl e1 h1 => ?_
    refine q_forR1 (n := (n : Int) * (n : Int)) (ea_cons (ev_op (ev_var rfl) (ev_var rfl) (rv_I (i := (n : Int)) (j := (n : Int)) (Or.inr ⟨by omega, by omega⟩))) ea_nil) ⟨by omega, by omega⟩
      (fun i σ' H' => ∃ s6, σ' = [some (.int n), some (.ref ad), some (.int w), some (.int a), some (.int b), some (.ref l), s6] ∧ Ex H H' ∧ ∃ ys : List Int, H' l = some (.lst (ys.map V.int)) ∧ ys.length = n * n ∧ ∀ k, k < i → ys[pl n w a b k]? = some (gt c k))
      (fun H2 e2 => ⟨none, rfl, e1.trans e2, c, e2 _ _ h1, R.len, fun k hk => absurd hk (Nat.not_lt_zero k)⟩) ?_ ?_
    · rintro i σ' H' hi ⟨s6, rfl, e2, ys, h2, yl, hp⟩
      have hi' : i < n * n := by omega
      have pi := pl_lt n1 w a b i
      refine s_setL (xs := ys.map V.int) (j := pl n w a b i) h2 (ev_op (ev_var rfl) (ev_var rfl) (rv_ixL (ex_l e2 hS) (at_int rfl (by rw [R.len]; exact hi')))) (ev_var rfl) (ev_call (ea_cons (ev_var rfl) (ea_cons (ev_var rfl) (ea_cons (ev_var rfl) (ea_cons (ev_var rfl) (ea_cons (ev_var rfl) ea_nil))))) (spTaken_V n1 n6 hw)) (by rw [List.length_map, yl]; exact pi) fun H3 e3 => ?_
      refine ⟨_, rfl, (e2.trans e3).mut hl, ys.set (pl n w a b i) (gt c i), ?_, by rw [List.length_set, yl], fun k hk => ?_⟩
      · rw [upd_same, List.map_set]
      · rcases Nat.lt_succ_iff_lt_or_eq.mp hk with h | rfl
        · rw [List.getElem?_set_ne fun z => Nat.ne_of_lt h (pl_inj hw hi' (by omega) z).symm]
          exact hp k h
        · rw [List.getElem?_set_self (by rw [yl]; exact pi)]
    · rintro σ' H' ⟨s6, rfl, e2, ys, h2, yl, hp⟩
      rw [nm, Int.toNat_natCast] at hp
      refine s_ret (ev_var rfl) fun H3 e3 => ?_
      refine q l H3 hl (e2.trans e3) ?_
      rw [e3 _ _ h2, sq_is R hw yl hp]
/-! ### least -/
/-- the items of the list, each with what it holds -/
theorem Its.keys {g : M3 → List Int} {H : Hp} : ∀ {ys : List V} {ms : List M3}, Its (IsTup fun m => (g m).map V.int) H ys ms → ∃ ks : List (Addr × List Int), ys = ks.map (fun p => V.ref p.1) ∧ (∀ p ∈ ks, H p.1 = some (.tup (p.2.map V.int))) ∧ ks.map (·.2) = ms.map g
  | [], [], _ => ⟨[], rfl, (fun p hp => by cases hp), rfl⟩
  | _ :: _, m :: _, ⟨⟨a, h1, h2⟩, h3⟩ => by
    obtain ⟨ks, k1, k2, k3⟩ := Its.keys h3
    refine ⟨(a, g m) :: ks, ?_, fun p hp => ?_, ?_⟩
    · rw [h1, k1]
      rfl
    · rcases List.mem_cons.mp hp with rfl | hp
      · exact h2
      · exact k2 p hp
    · rw [List.map_cons, List.map_cons, k3]
theorem ups_inj {a b : List Nat} (h : ups a = ups b) : a = b := by
  unfold ups at h
  have e : ∀ l : List Nat, (l.map fun (x : Nat) => (x : Int)).map Int.toNat = l := fun l => by
    rw [List.map_map]
    exact (List.map_congr_left fun x _ => Int.toNat_natCast x).trans (List.map_id l)
  rw [← e a, h, e b]
theorem lex_before : ∀ {a b : List Nat}, a.length = b.length → HT.lexLt (ups a) (ups b) = Sa48.before a b
  | [], [], _ => rfl
  | x :: a, y :: b, h => by
    have ih := lex_before (a := a) (b := b) (Nat.succ.inj h)
    show HT.lexLt ((x : Int) :: ups a) ((y : Int) :: ups b) = (decide (x < y) || (x == y && Sa48.before a b))
    rw [HT.lexLt_cons, ih]
    by_cases e : x = y
    · subst e
      rw [if_pos rfl, decide_eq_false (Nat.lt_irrefl x), beq_self_eq_true, Bool.true_and, Bool.false_or]
    · rw [if_neg (fun z : (x : Int) = (y : Int) => e (Int.ofNat.inj z)), beq_false_of_ne e, Bool.false_and, Bool.or_false]
      by_cases l : x < y
      · rw [decide_eq_true l, decide_eq_true (Int.ofNat_lt.mpr l)]
      · rw [decide_eq_false l, decide_eq_false (fun z => l (Int.ofNat_lt.mp z))]
  | [], _ :: _, h => by cases h
  | _ :: _, [], h => by cases h
/-- what the movements make, by the program's list of them -/
theorem mv_is {n : Nat} {c : List Int} {w : Nat} (n1 : 1 ≤ n) (hw : w ≤ 2) {q : List Nat} : (∃ m ∈ mv n (cn w), ups q = sq n c m.1 (m.2.1 : Int) (m.2.2 : Int)) ↔ LM.Is (Pt n c) w q := by
  rw [← LM.made_is (p := Pt n c) (show 0 < n by omega) hw]
  constructor
  · rintro ⟨m, hm, e⟩
    obtain ⟨h1, h2, h3⟩ := mem_mv.mp hm
    refine ⟨(m.1, (m.2.1 : Int), (m.2.2 : Int)), AM.mem_moves.mpr ⟨(LM.mem_which hw).mpr h1, CM.mem_rg.mpr ⟨Int.natCast_nonneg _, Int.ofNat_lt.mpr h2⟩, CM.mem_rg.mpr ⟨Int.natCast_nonneg _, Int.ofNat_lt.mpr h3⟩⟩, ups_inj e⟩
  · rintro ⟨m, hm, rfl⟩
    obtain ⟨h1, h2, h3⟩ := AM.mem_moves.mp hm
    have h2 := CM.mem_rg.mp h2
    have h3 := CM.mem_rg.mp h3
    have h2b : m.2.1 < (n : Int) := h2.2
    have h3b : m.2.2 < (n : Int) := h3.2
    refine ⟨(m.1, m.2.1.toNat, m.2.2.toNat), mem_mv.mpr ⟨(LM.mem_which hw).mp h1, by show m.2.1.toNat < n; omega, by show m.2.2.toNat < n; omega⟩, ?_⟩
    show ups _ = sq n c m.1 ((m.2.1.toNat : Nat) : Int) ((m.2.2.toNat : Nat) : Int)
    rw [Int.toNat_of_nonneg h2.1, Int.toNat_of_nonneg h3.1]
    rfl
theorem least_head {n : Nat} {c : List Int} {w : Nat} (R : Rq n c) (hw : w ≤ 2) : ∃ r : List Int, r.length = n * n ∧ PySa48.least (n : Int) (w : Int) c = ((Sa48Neutral.images (Pt n c) w).length : Int) :: r := by
  have n1 := R.lo
  have n6 := R.hi
  have cl : (Sa48Neutral.nats c).length = n * n := by
    unfold Sa48Neutral.nats
    rw [List.length_map, R.len]
  obtain ⟨i1, i2⟩ := LM.images_say (p := Pt n c) (show 0 < n by omega) hw
  obtain ⟨f1, _, _⟩ := LM.first_of (Sa48Neutral.images (Pt n c) w) (Sa48Neutral.nats c)
  have e : PySa48.least (n : Int) (w : Int) c = if (n : Int).toNat < 1 ∨ 64 < (n : Int).toNat ∨ (w : Int) < 0 ∨ 2 < (w : Int).toNat then [-2] else Sa48Neutral.told (Sa48Neutral.images ⟨(n : Int).toNat, Sa48Neutral.nats c⟩ (w : Int).toNat).length ((Sa48Neutral.images ⟨(n : Int).toNat, Sa48Neutral.nats c⟩ (w : Int).toNat).foldl (fun (b q : List Nat) => if Sa48.before q b = true then q else b) (Sa48Neutral.nats c)) := rfl
  rw [if_neg (by omega), Int.toNat_natCast, Int.toNat_natCast] at e
  have e : PySa48.least (n : Int) (w : Int) c = ((Sa48Neutral.images (Pt n c) w).length : Int) :: ups ((Sa48Neutral.images (Pt n c) w).foldl (fun (b q : List Nat) => if Sa48.before q b = true then q else b) (Sa48Neutral.nats c)) := e
  refine ⟨_, ?_, e⟩
  unfold ups
  rw [List.length_map]
  rcases f1 with f1 | f1
  · rw [f1]
    exact cl
  · exact LM.is_len ((i2 _).mp f1)
section
variable {σ : L2.St} {H : Hp} {ta te : TE}
theorem q_asgIts {D : Ends} {tz : TS} {i : Nat} {It : M3 → V → Hp → Prop} {ms : List M3} (h : EvIts te σ H It ms) (k : ∀ l ys H1, H l = none → Ex H H1 → H1 l = some (.lst ys) → Its It H1 ys ms → tz D (σ.set i (some (.ref l))) H1) : tSeq (tAsg te (gName i)) tz D σ H := h H (Ex.refl H) _ k
theorem eu_tupOf {xs : List V} (h : EvL te σ H xs) : EvU (tCB (rTupOf K) (tCons te tNil)) σ H xs := fun H1 e Q q =>
  h H1 e _ fun p H2 n2 e2 h2 => ⟨p, xs, rfl, Or.inl ⟨sq_of h2, fun l hl => q l _ (fresh_back e2 hl) (e2.trans (Ex.new hl)) upd_same⟩⟩
theorem ev_lenSet {l : Addr} {ks : List (Addr × List Int)} {m : Nat} (h : Ev te σ H (.ref l)) (hl : H l = some (.lst (ks.map fun p => V.ref p.1))) (ht : ∀ p ∈ ks, H p.1 = some (.tup (p.2.map V.int))) (few : ks.length ≤ 300)
    (hm : ∀ D : List (List Int), D.Nodup → (∀ k, k ∈ D ↔ ∃ p ∈ ks, p.2 = k) → D.length = m) : Ev (TR.tLenSetB K te) σ H (.int (m : Nat)) := fun H1 e Q q =>
  h H1 e _ fun H2 e2 => ⟨l, ks, rfl, ⟨sq_of ((e.trans e2) _ _ hl), fun p hp => st_of ((e.trans e2) _ _ (ht p hp))⟩, few, fun D d1 d2 => by
    rw [hm D d1 d2]
    exact q H2 e2⟩
theorem el_minOf {l : Addr} {ks : List (Addr × List Int)} {r : List Int} (h : Ev te σ H (.ref l)) (hl : H l = some (.lst (ks.map fun p => V.ref p.1))) (ht : ∀ p ∈ ks, H p.1 = some (.tup (p.2.map V.int))) (pos : 0 < ks.length)
    (hm : ∀ p ∈ ks, (∀ q ∈ ks, HT.lexLt q.2 p.2 = false) → p.2 = r) : EvL (tCB (rListS K) (tCons (tCB (TR.rMinT K) (tCons te tNil)) tNil)) σ H (r.map V.int) := fun H1 e Q q =>
  h H1 e _ fun H2 e2 => ⟨l, ks, rfl, ⟨sq_of ((e.trans e2) _ _ hl), fun p hp => st_of ((e.trans e2) _ _ (ht p hp))⟩, pos, fun p hp hmin => ⟨p.1, p.2.map V.int, rfl, Or.inr (st_of ((e.trans e2) _ _ (ht p hp))), fun z hz => by
    rw [hm p hp hmin]
    exact q z _ (fresh_back e2 hz) (e2.trans (Ex.new hz)) upd_same⟩⟩
theorem el_catLL {tb : TE} {xs ys : List V} (ha : EvL ta σ H xs) (hb : EvL tb σ H ys) (hz : xs.length + ys.length ≤ 100000) : EvL (tOp rCat ta tb) σ H (xs ++ ys) := fun H1 e Q q =>
  ha H1 e _ fun l H2 n2 e2 h2 => hb H2 (e.trans e2) _ fun b H3 n3 e3 h3 => ⟨l, b, xs, ys, rfl, rfl, e3 _ _ h2, h3, sz_of hz, fun p hp => q p _ (fresh_back (e2.trans e3) hp) ((e2.trans e3).trans (Ex.new hp)) upd_same⟩
end
def spLeast (K : PySem.W.Frag) : Sp := fun vs H Q _ => ∃ (ad : Addr) (m wh : Int) (c : List Int), vs = [.int m, .int wh, .ref ad] ∧ SqL K H ad (c.map V.int) ∧ Asked m c ∧ ∀ p H', H' p = some (.lst ((PySa48.least m wh c).map V.int)) → Q (.ref p) H'
theorem ok_least (C_movements_by : Cal P w K mg base 1 "movements_by" ["n", "what"] spMv) (C_made : Cal P w K mg base 3 "made" ["n", "p", "way", "a", "b"] (spMade K)) (C_is_side : Cal P w K mg base 1 "is_side" ["n"] spSide) (C_is_what : Cal P w K mg base 1 "is_what" ["what"] spWhat)
    {f : Addr} {fd : FuncData} (F : Fun K "least" "least" s_least f fd) (m_len : mg "len" = none) (m_list : mg "list" = none) (m_min : mg "min" = none) (m_set : mg "set" = none) (m_tuple : mg "tuple" = none) : FnOk P w K mg base CX0 4 f fd ["n", "what", "p"] (spLeast K) := by
  obtain ⟨f_movements_by, fd_movements_by, G_movements_by, kp_movements_by, b_movements_by, g_movements_by⟩ := C_movements_by
  obtain ⟨f_made, fd_made, G_made, kp_made, b_made, g_made⟩ := C_made
  obtain ⟨f_is_side, fd_is_side, G_is_side, kp_is_side, b_is_side, g_is_side⟩ := C_is_side
  obtain ⟨f_is_what, fd_is_what, G_is_what, kp_is_what, b_is_what, g_is_what⟩ := C_is_what
  refine F.ok sc_least (fun vs H Q E h => ?_) (fun cdv A outer s H vs Q E hr h => ?_)
  · obtain ⟨ad, m, wh, c, rfl, _⟩ := h
    rfl
  · obtain ⟨ad, m, wh, c, rfl, hS, hm, q⟩ := h
    refine ⟨_,
      (pss_cons (ps_if (PW.pt (pw_or (pt_not (pt_val (pe_call G_is_side (hr.mono (by decide)) (by rfl) g_is_side kp_is_side b_is_side .nil pass0 (pa_cons (pv 0) pa_nil)))) (pw_or1 (pt_not (pt_val (pe_call G_is_what (hr.mono (by decide)) (by rfl) g_is_what kp_is_what b_is_what .nil pass0 (pa_cons (pv 1) pa_nil))))))) (pss_one (ps_ret (pe_lst (pa_cons (pe_un un_neg pe_int) pa_nil)))) pss_nil)
          (pss_cons (ps_setLc (i := 3) (own := [("way", 4), ("a", 5), ("b", 6)]) rfl sc_least.nd rfl rfl (sw_true rfl rfl rfl (by decide +kernel)) (pi_list (pe_call G_movements_by (hr.mono (by decide)) (by rfl) g_movements_by kp_movements_by b_movements_by .nil pass0 (pa_cons (pv 0) (pa_cons (pv 1) pa_nil)))) (blkOk_by (own := [("way", 4), ("a", 5), ("b", 6)]) (N := ["n", "what", "p", "squares", "way", "a", "b"]) (sc := defScope s_least) (by decide +kernel)) (fun _ _ _ _ _ => (show PG _ _ (gTup K 3 (gCons (gName 4) (gCons (gName 5) (gCons (gName 6) gNil)))) from (pg_tup rfl (pgs_cons (pg_name (i := 4) sc_least.nd rfl (Or.inl rfl) (Or.inr rfl)) (pgs_cons (pg_name (i := 5) sc_least.nd rfl (Or.inl rfl) (Or.inr rfl)) (pgs_cons (pg_name (i := 6) sc_least.nd rfl (Or.inl rfl) (Or.inr rfl)) pgs_nil)))))) (fun _ _ _ _ _ => pts_nil) (fun _ _ _ _ _ => (pe_callTy (show CallR _ _ (rTupOf K) from call_tuple_of) (by rfl) m_tuple (by decide +kernel) (pa_cons (pe_call G_made (hr.mono (by decide)) (by rfl) g_made kp_made b_made .nil pass0 (pa_cons (pv 0) (pa_cons (pv 2) (pa_cons (pv 4) (pa_cons (pv 5) (pa_cons (pv 6) pa_nil)))))) pa_nil))))
          (pss_one (ps_ret (pe_op op_cat (pe_lst (pa_cons (TR.pe_lenSetB rfl hr.units rfl m_len rfl m_set (pv 3)) pa_nil)) (pe_callTy call_list_of (by rfl) m_list (by decide +kernel) (pa_cons (pe_callB (TR.cr_minT hr.units rfl) (by rfl) m_min (by decide +kernel) (pa_cons (pv 3) pa_nil)) pa_nil)))))))
      , ?_⟩
    refine q_when (b := !(decide (1 ≤ m) && decide (m ≤ 64)) || !(decide (0 ≤ wh) && decide (wh ≤ 2))) (et_or (et_not (et_B (ev_call (ea_cons (ev_var rfl) ea_nil) (spSide_V m)))) fun _ => et_not (et_B (ev_call (ea_cons (ev_var rfl) ea_nil) (spWhat_V wh)))) ?_ ?_
    · intro hb H1 e1
      refine s_retL (el_lst (ea_cons (ev_un ev_c ru_neg) ea_nil) (by show 1 ≤ 100000; decide)) fun p H2 _ _ h2 => q p H2 ?_
      rw [LM.least_bad]
      · exact h2
      · simp only [Bool.or_eq_true, Bool.not_eq_true', Bool.and_eq_false_iff, decide_eq_false_iff_not] at hb
        omega
    · intro hb H1 e1
      simp only [Bool.or_eq_false_iff, Bool.not_eq_false', Bool.and_eq_true, decide_eq_true_iff] at hb
      obtain ⟨n, rfl, R⟩ := hm.resolve_left (by omega)
      obtain ⟨w, rfl⟩ := Int.eq_ofNat_of_zero_le (show 0 ≤ wh by omega)
      have n1 := R.lo
      have n6 := R.hi
      have nn : n * n ≤ 36 := Nat.mul_le_mul n6 n6
      have hw : w ≤ 2 := by omega
      have c8 := cn_le w
      have few : (mv n (cn w)).length ≤ 8 * 36 := by
        rw [mv_len]
        exact Nat.mul_le_mul c8.2 nn
      have some1 : 0 < (mv n (cn w)).length := by
        rw [mv_len]
        exact Nat.mul_pos (by omega) (Nat.mul_pos n1 n1)
      refine q_asgIts (el_mv (K := K) (fun m ta => [some (.int n), some (.int w), some (.ref ad), none, some (.int m.1), some (.int m.2.1), some (.int m.2.2)]) (fun _ => true) (IsTup fun m => (sq n c m.1 (m.2.1 : Int) (m.2.2 : Int)).map V.int) (isTup_lasts _) (ms := mv n (cn w)) ?_ (by omega) ?_ ?_ ?_ ?_) fun D ys H2 hD e2 h2 i2 => ?_
      · exact em_mv (n := n) (w := w) (ea_cons (ev_var rfl) (ea_cons (ev_var rfl) ea_nil)) rfl n1 (by omega) hw
      · intro m ta H3 Z hta h
        exact ⟨ta, _, rfl, st_of hta, rfl, _, _, rfl, _, _, rfl, _, _, rfl, rfl, h⟩
      · intro m ta
        rfl
      · intro m ta H3 hm e3 hta
        exact fun H4 e4 Q k => k H4 (Ex.refl _)
      · intro m ta H3 hm _ e3 hta
        have h8 := (mem_mv.mp hm).1
        refine fun H4 e4 Q k => eu_tupOf (K := K) (el_call (ea_cons (ev_var rfl) (ea_cons (ev_var rfl) (ea_cons (ev_var rfl) (ea_cons (ev_var rfl) (ea_cons (ev_var rfl) ea_nil))))) (xs := (sq n c m.1 (m.2.1 : Int) (m.2.2 : Int)).map V.int) fun H5 e5 Q q E => ⟨ad, n, c, m.1, (m.2.1 : Int), (m.2.2 : Int), rfl, ex_l ((e1.trans e3).trans e5) hS, R, by omega, fun p H6 h6 e6 h7 => q p H6 h6 e6 h7⟩) H4 e4 Q fun p H5 _ e5 h5 => k _ H5 e5 ⟨p, rfl, h5⟩
      · have ef : (mv n (cn w)).filter (fun _ => true) = mv n (cn w) := List.filter_eq_self.mpr fun _ _ => rfl
        rw [ef] at i2
        obtain ⟨ks, rfl, kt, kk⟩ := Its.keys i2
        have kl : ks.length = (mv n (cn w)).length := by rw [← List.length_map (f := (·.2)), kk, List.length_map]
        have mem : ∀ k, (∃ p ∈ ks, p.2 = k) ↔ ∃ m ∈ mv n (cn w), k = sq n c m.1 (m.2.1 : Int) (m.2.2 : Int) := fun k => by
          have z : k ∈ ks.map (·.2) ↔ k ∈ (mv n (cn w)).map fun m => sq n c m.1 (m.2.1 : Int) (m.2.2 : Int) := by rw [kk]
          rw [List.mem_map, List.mem_map] at z
          exact z.trans ⟨fun ⟨m, h1, h2⟩ => ⟨m, h1, h2.symm⟩, fun ⟨m, h1, h2⟩ => ⟨m, h1, h2.symm⟩⟩
        have low : ∀ k, (∃ p ∈ ks, p.2 = k) ↔ ∃ z, LM.Is (Pt n c) w z ∧ k = ups z := fun k => by
          rw [mem]
          constructor
          · rintro ⟨m, hm, e⟩
            exact ⟨_, (mv_is n1 hw).mp ⟨m, hm, rfl⟩, e⟩
          · rintro ⟨z, hz, rfl⟩
            exact (mv_is n1 hw).mpr hz
        obtain ⟨i1, i3⟩ := LM.images_say (p := Pt n c) (show 0 < n by omega) hw
        obtain ⟨r, rl, lh⟩ := least_head R hw
        refine s_retL (el_catLL (xs := [.int ((Sa48Neutral.images (Pt n c) w).length : Nat)]) (ys := r.map V.int) (el_lst (ea_cons (ev_lenSet (K := K) (l := D) (ks := ks) (m := (Sa48Neutral.images (Pt n c) w).length) (ev_var rfl) h2 kt (by omega) ?_) ea_nil) (by show 1 ≤ 100000; decide)) (el_minOf (K := K) (l := D) (ks := ks) (ev_var rfl) h2 kt (by omega) ?_) ?_) fun p H3 _ _ h3 => q p H3 ?_
        · intro L d1 d2
          have d3 : ∀ k, k ∈ L ↔ k ∈ (Sa48Neutral.images (Pt n c) w).map ups := fun k => by
            rw [d2, low, List.mem_map]
            exact ⟨fun ⟨z, h1, h2⟩ => ⟨z, (i3 z).mpr h1, h2.symm⟩, fun ⟨z, h1, h2⟩ => ⟨z, (i3 z).mp h1, h2.symm⟩⟩
          have d4 : ((Sa48Neutral.images (Pt n c) w).map ups).Nodup := List.Pairwise.map ups (fun a b h e => h (ups_inj e)) i1
          rw [LM.len_eq_of_same d1 d4 d3, List.length_map]
        · intro p hp hmin
          obtain ⟨z, hz, ez⟩ := (low p.2).mp ⟨p, hp, rfl⟩
          have ls := LM.least_spec (n := n) (c := c) (w := w) ⟨n1, by omega⟩ hw R.len i1 i3 hz fun y hy => by
            obtain ⟨p2, hp2, e2⟩ := (low (ups y)).mpr ⟨y, hy, rfl⟩
            have m2 := hmin p2 hp2
            rw [e2, ez, lex_before ((LM.is_len hy).trans (LM.is_len hz).symm)] at m2
            exact m2
          rw [lh] at ls
          rw [ez]
          exact (List.cons.inj ls).2.symm
        · rw [List.length_map]
          show 1 + r.length ≤ 100000
          omega
        · rw [h3, lh]
          rfl
end
/-! ### the end -/
theorem all_mk {P : Program} {w : World} {K : PySem.W.Frag} {h : Heap} {mg : Str → Option Value} {fa f_movements_by f_turned f_taken f_made f_is_what f_is_side f_least : Addr} (X : K.In h) (G : h.Ns mainGlobals mg) (hfa : mg "least" = some (.ref fa))
    {od_movements_by an_movements_by od_turned an_turned od_taken an_taken od_made an_made od_is_what an_is_what od_is_side an_is_side od_least an_least : Option Addr} {sl_movements_by sl_turned sl_taken sl_made sl_is_what sl_is_side sl_least : Array (Option Value)} {oc_movements_by kV_movements_by dc_movements_by pm_movements_by cd_movements_by ct_movements_by oc_turned kV_turned dc_turned pm_turned cd_turned ct_turned oc_taken kV_taken dc_taken pm_taken cd_taken ct_taken oc_made kV_made dc_made pm_made cd_made ct_made oc_is_what kV_is_what dc_is_what pm_is_what cd_is_what ct_is_what oc_is_side kV_is_side dc_is_side pm_is_side cd_is_side ct_is_side oc_least kV_least dc_least pm_least cd_least ct_least : Value}
    (a_movements_by : PySem.W.nsIn K mainGlobals "movements_by" = some (some (.ref f_movements_by))) (l_movements_by : K.lookup f_movements_by = some ⟨oc_movements_by, od_movements_by, .func (PySem.W.fnOf "movements_by" "movements_by" (defArgs s_movements_by) (defBody s_movements_by) (defScope s_movements_by) .none kV_movements_by dc_movements_by pm_movements_by an_movements_by cd_movements_by ct_movements_by), sl_movements_by⟩) (c_movements_by : PySem.W.codeIn K cd_movements_by "movements_by" = true) (k_movements_by : PySem.W.keepIn K (.ref f_movements_by) = true)
    (a_turned : PySem.W.nsIn K mainGlobals "turned" = some (some (.ref f_turned))) (l_turned : K.lookup f_turned = some ⟨oc_turned, od_turned, .func (PySem.W.fnOf "turned" "turned" (defArgs s_turned) (defBody s_turned) (defScope s_turned) .none kV_turned dc_turned pm_turned an_turned cd_turned ct_turned), sl_turned⟩) (c_turned : PySem.W.codeIn K cd_turned "turned" = true) (k_turned : PySem.W.keepIn K (.ref f_turned) = true)
    (a_taken : PySem.W.nsIn K mainGlobals "taken" = some (some (.ref f_taken))) (l_taken : K.lookup f_taken = some ⟨oc_taken, od_taken, .func (PySem.W.fnOf "taken" "taken" (defArgs s_taken) (defBody s_taken) (defScope s_taken) .none kV_taken dc_taken pm_taken an_taken cd_taken ct_taken), sl_taken⟩) (c_taken : PySem.W.codeIn K cd_taken "taken" = true) (k_taken : PySem.W.keepIn K (.ref f_taken) = true)
    (a_made : PySem.W.nsIn K mainGlobals "made" = some (some (.ref f_made))) (l_made : K.lookup f_made = some ⟨oc_made, od_made, .func (PySem.W.fnOf "made" "made" (defArgs s_made) (defBody s_made) (defScope s_made) .none kV_made dc_made pm_made an_made cd_made ct_made), sl_made⟩) (c_made : PySem.W.codeIn K cd_made "made" = true) (k_made : PySem.W.keepIn K (.ref f_made) = true)
    (a_is_what : PySem.W.nsIn K mainGlobals "is_what" = some (some (.ref f_is_what))) (l_is_what : K.lookup f_is_what = some ⟨oc_is_what, od_is_what, .func (PySem.W.fnOf "is_what" "is_what" (defArgs s_is_what) (defBody s_is_what) (defScope s_is_what) .none kV_is_what dc_is_what pm_is_what an_is_what cd_is_what ct_is_what), sl_is_what⟩) (c_is_what : PySem.W.codeIn K cd_is_what "is_what" = true) (k_is_what : PySem.W.keepIn K (.ref f_is_what) = true)
    (a_is_side : PySem.W.nsIn K mainGlobals "is_side" = some (some (.ref f_is_side))) (l_is_side : K.lookup f_is_side = some ⟨oc_is_side, od_is_side, .func (PySem.W.fnOf "is_side" "is_side" (defArgs s_is_side) (defBody s_is_side) (defScope s_is_side) .none kV_is_side dc_is_side pm_is_side an_is_side cd_is_side ct_is_side), sl_is_side⟩) (c_is_side : PySem.W.codeIn K cd_is_side "is_side" = true) (k_is_side : PySem.W.keepIn K (.ref f_is_side) = true)
    (a_least : PySem.W.nsIn K mainGlobals "least" = some (some (.ref f_least))) (l_least : K.lookup f_least = some ⟨oc_least, od_least, .func (PySem.W.fnOf "least" "least" (defArgs s_least) (defBody s_least) (defScope s_least) .none kV_least dc_least pm_least an_least cd_least ct_least), sl_least⟩) (c_least : PySem.W.codeIn K cd_least "least" = true) (k_least : PySem.W.keepIn K (.ref f_least) = true)
    (z_range : PySem.W.nsIn K mainGlobals "range" = some none)
    (z_len : PySem.W.nsIn K mainGlobals "len" = some none)
    (z_list : PySem.W.nsIn K mainGlobals "list" = some none)
    (z_min : PySem.W.nsIn K mainGlobals "min" = some none)
    (z_set : PySem.W.nsIn K mainGlobals "set" = some none)
    (z_tuple : PySem.W.nsIn K mainGlobals "tuple" = some none)
    : ∃ fd : FuncData, (∀ (s : Shared) (us : List Value), us.length = (["n", "what", "p"] : List Str).length → BindsTo s fd ⟨us, []⟩ ((["n", "what", "p"] : List Str).zip us)) ∧ ∀ base : Heap, K.In base → base.Ns mainGlobals mg → FnOk P w K mg base CX0 4 fa fd ["n", "what", "p"] (spLeast K) := by
  have e := hfa.symm.trans (PySem.W.mg_of X G a_least)
  cases e
  have F_movements_by := fun_mk (st := s_movements_by) l_movements_by c_movements_by k_movements_by
  have b_movements_by := F_movements_by.binds (ps := ["n", "what"]) fun _ _ _ _ _ _ us hl => match us, hl with | [_, _], _ => rfl
  have g_movements_by := PySem.W.mg_of X G a_movements_by
  have F_turned := fun_mk (st := s_turned) l_turned c_turned k_turned
  have b_turned := F_turned.binds (ps := ["way", "x", "y"]) fun _ _ _ _ _ _ us hl => match us, hl with | [_, _, _], _ => rfl
  have g_turned := PySem.W.mg_of X G a_turned
  have F_taken := fun_mk (st := s_taken) l_taken c_taken k_taken
  have b_taken := F_taken.binds (ps := ["n", "way", "a", "b", "place"]) fun _ _ _ _ _ _ us hl => match us, hl with | [_, _, _, _, _], _ => rfl
  have g_taken := PySem.W.mg_of X G a_taken
  have F_made := fun_mk (st := s_made) l_made c_made k_made
  have b_made := F_made.binds (ps := ["n", "p", "way", "a", "b"]) fun _ _ _ _ _ _ us hl => match us, hl with | [_, _, _, _, _], _ => rfl
  have g_made := PySem.W.mg_of X G a_made
  have F_is_what := fun_mk (st := s_is_what) l_is_what c_is_what k_is_what
  have b_is_what := F_is_what.binds (ps := ["what"]) fun _ _ _ _ _ _ us hl => match us, hl with | [_], _ => rfl
  have g_is_what := PySem.W.mg_of X G a_is_what
  have F_is_side := fun_mk (st := s_is_side) l_is_side c_is_side k_is_side
  have b_is_side := F_is_side.binds (ps := ["n"]) fun _ _ _ _ _ _ us hl => match us, hl with | [_], _ => rfl
  have g_is_side := PySem.W.mg_of X G a_is_side
  have F_least := fun_mk (st := s_least) l_least c_least k_least
  have m_range := PySem.W.mg_none_of X G z_range
  have m_len := PySem.W.mg_none_of X G z_len
  have m_list := PySem.W.mg_none_of X G z_list
  have m_min := PySem.W.mg_none_of X G z_min
  have m_set := PySem.W.mg_none_of X G z_set
  have m_tuple := PySem.W.mg_none_of X G z_tuple
  refine ⟨PySem.W.fnOf "least" "least" (defArgs s_least) (defBody s_least) (defScope s_least) .none kV_least dc_least pm_least an_least cd_least ct_least, fun s us hu => match us, hu with | [_, _, _], _ => .of_eq rfl, fun base _ _ => ?_⟩
  have C_turned : Cal P w K mg base 1 "turned" ["way", "x", "y"] spTurned := ⟨_, _, ok_turned F_turned, F_turned.kp, b_turned, g_turned⟩
  have C_taken : Cal P w K mg base 2 "taken" ["n", "way", "a", "b", "place"] spTaken := ⟨_, _, ok_taken C_turned F_taken, F_taken.kp, b_taken, g_taken⟩
  have C_movements_by : Cal P w K mg base 1 "movements_by" ["n", "what"] spMv := ⟨_, _, ok_mv F_movements_by m_range, F_movements_by.kp, b_movements_by, g_movements_by⟩
  have C_made : Cal P w K mg base 3 "made" ["n", "p", "way", "a", "b"] (spMade K) := ⟨_, _, ok_made C_taken F_made m_range m_list, F_made.kp, b_made, g_made⟩
  have C_is_side : Cal P w K mg base 1 "is_side" ["n"] spSide := ⟨_, _, ok_side F_is_side, F_is_side.kp, b_is_side, g_is_side⟩
  have C_is_what : Cal P w K mg base 1 "is_what" ["what"] spWhat := ⟨_, _, ok_what F_is_what, F_is_what.kp, b_is_what, g_is_what⟩
  exact ok_least C_movements_by C_made C_is_side C_is_what F_least m_len m_list m_min m_set m_tuple
end CH
open PySem PySem.W PyProof.Rows
set_option maxRecDepth 100000 in
set_option maxHeartbeats 8000000 in
theorem PySem.Challenge.cw_planerepeats_s04_least_holds : PySem.Challenge.rw_planerepeats_s04_least.Holds := by
  w_on; k_headS; (case hw => exact ⟨[.int 0, .int 0, .list []], by decide +kernel, by decide +kernel⟩)
  k_fillS
  refine L2.walk_specK (r := PySem.Challenge.rw_planerepeats_s04_least) (k := 4) (CX := L2.CX0) (ps := ["n", "what", "p"]) (sp := CH.spLeast) (by decide +kernel) rfl rfl ⟨rfl, by decide, by decide⟩ (fun w h Y => PySem.W.kIn_of Y) ?F ?S (fun _ _ _ _ z => z)
  case F =>
    intro w mg fa h Y KX G hmg
    refine' CH.all_mk KX G hmg ?a_movements_by ?l_movements_by ?c_movements_by ?k_movements_by ?a_turned ?l_turned ?c_turned ?k_turned ?a_taken ?l_taken ?c_taken ?k_taken ?a_made ?l_made ?c_made ?k_made ?a_is_what ?l_is_what ?c_is_what ?k_is_what ?a_is_side ?l_is_side ?c_is_side ?k_is_side ?a_least ?l_least ?c_least ?k_least ?z_range ?z_len ?z_list ?z_min ?z_set ?z_tuple
    (case a_movements_by => k_is); (case l_movements_by => k_is); (case c_movements_by => k_is); (case k_movements_by => k_is); (case a_turned => k_is); (case l_turned => k_is); (case c_turned => k_is); (case k_turned => k_is); (case a_taken => k_is); (case l_taken => k_is); (case c_taken => k_is); (case k_taken => k_is); (case a_made => k_is); (case l_made => k_is); (case c_made => k_is); (case k_made => k_is); (case a_is_what => k_is); (case l_is_what => k_is); (case c_is_what => k_is); (case k_is_what => k_is); (case a_is_side => k_is); (case l_is_side => k_is); (case c_is_side => k_is); (case k_is_side => k_is); (case a_least => k_is); (case l_least => k_is); (case c_least => k_is); (case k_least => k_is); (case z_range => k_is); (case z_len => k_is); (case z_list => k_is); (case z_min => k_is); (case z_set => k_is); (case z_tuple => k_is)
  case S =>
    intro K H xs a hO hwi hask hx
    cases hx with
    | cons h1 h2 =>
      cases h2 with
      | cons h3 h4 =>
        cases h4 with
        | cons h5 h6 =>
          cases h6
          cases h1
          cases h3
          cases h5 with
          | lst hs ha =>
            have e := L2.ints_dw a.2.2.1 _ ha
            subst e
            exact ⟨_, a.1, a.2.1, a.2.2.1, rfl, hs, CH.asked_is (Bool.and_eq_true_iff.mp hask).2, fun p H' hp => .lst (L2.SqL.of hp) (L2.dw_ints _)⟩
#print axioms PySem.Challenge.cw_planerepeats_s04_least_holds
