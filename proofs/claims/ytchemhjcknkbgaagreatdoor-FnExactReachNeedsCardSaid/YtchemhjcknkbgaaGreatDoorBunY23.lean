/- readSum: the program reads what the model reads. -/
import Derived.Test.YtchemhjcknkbgaaGreatDoorNodes
import Derived.Test.YtchemhjcknkbgaaGreatDoorBunY10
import Derived.Test.YtchemhjcknkbgaaGreatDoorBunY18
import Derived.Test.YtchemhjcknkbgaaGreatDoorBunY9
import Derived.BigQuiet
import Derived.Deep.RegionLaw
import Derived.Deep.RegionHeld3
import Derived.OpenShut
import Derived.Deep.Strs
import Derived.Test.YtchemhjcknkbgaaGreatDoorBunY7
namespace Go.Proofs.YtchemhjcknkbgaaGreatDoor
open Go Go.RowKit Go.PlainAid
set_option linter.unusedSimpArgs false
set_option linter.unusedVariables false

theorem nodes_ok (t : Tree) : NodesOk t := by
  induction t with
  | num n => exact fun B v l w h1 h2 h3 => numNodes_any B n v l w h1 h2 (by omega)
  | name x => exact fun B v l w h1 h2 h3 => nameNodes_any B x v l w h1 h2 (by omega)
  | ahead k t ih =>
    intro B v l w h1 h2 h3
    have := aheadNodes_any B k t v l w h1 h2 (by simp [Tree.nodes] at h3; omega) ih
    rw [List.append_assoc] at this
    exact this
  | pair k l r ihl ihr =>
    intro B v l' w h1 h2 h3
    have := pairNodes_any B k l r v l' w h1 h2 (by simp [Tree.nodes] at h3; omega) ihl ihr
    rw [List.append_assoc, List.append_assoc, ← List.append_assoc l.nodes] at this
    exact this

/-! ### each node takes a byte -/
def LenC (rec : Int → Nat → Nat → CR) : Prop := ∀ lev a d t a', rec lev a d = some (t, a') → t.nodes.length + a ≤ a'
theorem len_single {s : ByteArray} {rec : Int → Nat → Nat → CR} (hr : LenC rec) {a d : Nat} {t : Tree} {a' : Nat} (h : singleC rec s a d = some (t, a')) : t.nodes.length + a ≤ a' := by
  unfold singleC at h
  split at h
  · cases h
  · rename_i hs
    split at h
    · split at h
      · cases h
      · split at h
        · cases h
        · rename_i t2 a2 hr2
          have h3 := hr _ _ _ _ _ hr2
          split at h
          · cases h; omega
          · cases h
    · split at h
      · rename_i hf
        unfold numberC at h
        split at h
        · cases h
        · cases h
          have := figEnd_step (show a < s.size by omega) hf
          have h2 := (figF_le s (s.size - (a + 1)) (a + 1)).1
          have e : figF s (s.size - (a + 1)) (a + 1) = figEnd s (a + 1) := rfl
          simp [Tree.nodes]; omega
      · split at h
        · rename_i hn
          cases h
          have h1 : 1 ≤ (s.extract a (wordTo s a)).size := by
            unfold nmB at hn
            rw [Bool.and_eq_true, decide_eq_true_eq] at hn
            exact hn.1.1
          rw [ByteArray.size_extract] at h1
          have h2 := Nat.min_le_left (wordTo s a) s.size
          simp [Tree.nodes]; omega
        · cases h
theorem len_ahead {s : ByteArray} {rec : Int → Nat → Nat → CR} (hr : LenC rec) (d n : Nat) : ∀ {a : Nat} {t : Tree} {a' : Nat}, aheadC rec s d n a = some (t, a') → t.nodes.length + a ≤ a' := by
  induction n with
  | zero => intro a t a' h; cases h
  | succ n ih =>
    intro a t a' h
    have h1 := skipTo_mono s a
    unfold aheadC at h
    split at h
    · split at h
      · cases h
      · rename_i t2 a2 h3
        cases h
        have := ih h3
        simp [Tree.nodes]; omega
    · split at h
      · split at h
        · cases h
        · rename_i t2 a2 h3
          cases h
          have := ih h3
          simp [Tree.nodes]; omega
      · have := len_single hr h
        omega
theorem len_loop {s : ByteArray} {rec : Int → Nat → Nat → CR} (hr : LenC rec) (least : Int) (d n : Nat) : ∀ {t : Tree} {a : Nat} {t' : Tree} {a' : Nat}, loopC rec s least d n t a = some (t', a') → t'.nodes.length + a ≤ t.nodes.length + a' := by
  induction n with
  | zero => intro t a t' a' h; cases h
  | succ n ih =>
    intro t a t' a' h
    have h1 := skipTo_mono s a
    unfold loopC at h
    split at h
    · cases h; omega
    · rename_i hk
      have hk0 : pairAt s (skipTo s a) ≠ 0 := fun e => hk (.inl e)
      have h2 := pair_lt hk0
      split at h
      · cases h
      · rename_i r a2 h3
        have h4 := hr _ _ _ _ _ h3
        have h5 := ih h
        simp [Tree.nodes] at h5
        omega
theorem len_climb (s : ByteArray) (f : Nat) : LenC (climbF s f) := by
  induction f with
  | zero => intro lev a d t a' h; cases h
  | succ f ih =>
    intro lev a d t a' h
    unfold climbF at h
    split at h
    · cases h
    · rename_i t2 a2 h2
      have h3 := len_ahead ih _ _ h2
      have h4 := len_loop ih _ _ _ h
      omega
theorem len_CC {s : ByteArray} {least : Int} {a d : Nat} {t : Tree} {a' : Nat} (h : CC s least a d = some (t, a')) : t.nodes.length + a ≤ a' := len_climb s _ _ _ _ _ _ h

theorem own_nil (w : World) (B : Nat) : OwnNd B w (.slice none 0 0) [] := ⟨rfl, .inl ⟨rfl, rfl⟩⟩

/-- what reading all of a text leaves -/
def ReadPost (w : World) (R : Option (List Nd)) (e : Ending) (w' : World) : Prop :=
  Below w.heap.size w w' ∧ match R with
    | none => e = .returned (.tuple #[.slice none 0 0, .bool false])
    | some l => ∃ v, e = .returned (.tuple #[v, .bool true]) ∧ OwnNd w.heap.size w' v l

set_option maxHeartbeats 800000 in
set_option maxRecDepth 100000 in
theorem readSum_any (s : ByteArray) (w : World) (hs : s.size ≤ maxLen) (hg : Signs w) :
    Calls Tryz.prog 83 #[.string s] w fun e w' => ReadPost w (getM s) e w' := by
  unfold maxLen at hs
  rw [← readC_getM]
  obtain ⟨R, hR⟩ : ∃ R, readC s = R := ⟨_, rfl⟩
  have HRR : Hid (readC s = R) := hR
  rw [hR]
  have HG : Hid (Signs w) := hg
  have h0 := hg.lt
  clear hR hg
  by_cases h60 : 60 < s.size
  · have hRn : R = none := by rw [← HRR.out]; unfold readC; rw [if_pos h60]
    subst hRn
    go_enter Tryz.func83, Tryz.ntmps83
    go_wp2_with fail
    go_ret2
    exact ⟨Below.refl _ _, rfl⟩
  have H1 : Hid (RdI (w.alloc (.cells #[.string s, .int .i64 0] 185)) w.heap.size s 0 0) := ⟨by rw [tl_zero]; simp, by simp, fun j => by simp⟩
  have B1 : Hid (Below w.heap.size w (w.alloc (.cells #[.string s, .int .i64 0] 185))) := (Below.refl _ _).alloc (Nat.le_refl _) _
  have G1 : Hid (Signs (w.alloc (.cells #[.string s, .int .i64 0] 185))) := HG.out.mv (p := w.heap.size) (by omega) (Mv.of_below B1.out)
  go_enter Tryz.func83, Tryz.ntmps83
  go_wp2_with fail
  refine (climb_rd s (by omega) (s.size + 1) w.heap.size 1 0 0 _ (by omega) (by omega) (by omega) (by omega) (by decide) (by decide) H1.out G1.out).mono ?_
  rintro e w2 ⟨hm2, hpost⟩
  have hsz2 : w.heap.size < w2.heap.size := by have := hm2.size; simp at this; omega
  have B2 : Hid (Below w.heap.size w w2) := B1.out.trans ⟨hm2.os, hm2.tape, hm2.output, hm2.size, fun g hg => hm2.block g (by simp; omega) (by omega)⟩
  clear hm2 H1 B1 G1
  cases hc : CC s 1 0 0 with
  | none =>
    rw [hc] at hpost
    obtain ⟨v, hv, rfl⟩ := hpost
    have hRn : R = none := by rw [← HRR.out]; unfold readC; rw [if_neg h60, hc]
    subst hRn
    rcases hv with rfl | ⟨tv, xv, rfl⟩
    · go_wp2_with fail
      go_ret2
      exact ⟨B2.out, rfl⟩
    · go_wp2_with fail
      go_ret2
      exact ⟨B2.out, rfl⟩
  | some q =>
    obtain ⟨t, a'⟩ := q
    rw [hc] at hpost
    obtain ⟨rfl, hr2⟩ := hpost
    have c2 := hr2.c0
    have hadv := (advCC s _ _ _ _ _ hc).2 (by omega)
    have hlen := len_CC hc
    have hRR : R = if a' < s.size then none else if 24 < t.nodes.length then none else some t.nodes := by rw [← HRR.out]; unfold readC; rw [if_neg h60, hc]
    have hsz := tl_size s a'
    clear hr2 hc HRR
    rw [partV_eq]
    by_cases hlt : a' < s.size
    · rw [if_pos hlt] at hRR
      subst hRR
      have hl : ¬ (tl s a').toList = [] := by
        intro h
        rw [Lib.toList_data] at h
        have : (tl s a').size = 0 := by
          show (tl s a').data.size = 0
          rw [← Array.length_toList, h]; rfl
        omega
      have he : (tl s a').toList.isEmpty = false := by simpa using hl
      generalize tl s a' = x at *
      go_wp2_with fail
      go_ret2
      exact ⟨B2.out, rfl⟩
    rw [if_neg hlt] at hRR
    have ht0 : tl s a' = ⟨#[]⟩ := empty_of (by omega)
    rw [ht0] at c2
    have HN : Hid (Calls Tryz.prog (nodesFn t) #[partX t, .slice none 0 0] w2 fun e w' => ∃ v', e = .returned v' ∧ OwnNd w.heap.size w' v' ([] ++ t.nodes) ∧ Gr (.slice none 0 0) w2 w' v') := nodes_ok t w.heap.size _ [] w2 (by omega) (own_nil _ _) (by simp; omega)
    have HCM : Hid (∀ u, (callMethod (.iface (partT t) (partX t)) "loop.example/telltale/impl.nodes" #[.slice none 0 0]).run Tryz.prog u = .ok (.enter (nodesFn t) #[partX t, .slice none 0 0]) u) := nodes_method t (.slice none 0 0)
    generalize partX t = px at *
    generalize partT t = pt at *
    generalize nodesFn t = fn at *
    clear ht0 hsz
    go_wp2_with (refine wpList_invoke rfl (.tmp 24) (.const (.slice none 0 0)) _ _ rfl pt px (.slice none 0 0) fn rfl rfl (HCM.out _) HN.out ?_)
    intro e w3 v3 he hown3 hgr3
    subst he
    refine ⟨v3, rfl, ?_⟩
    have B3 : Hid (Below w.heap.size w w3) := B2.out.trans (hgr3.below (by omega) (fun k hk => by cases hk))
    have HO3 : Hid (OwnNd w.heap.size w3 v3 t.nodes) := hown3
    obtain ⟨a3, c3, rfl, hcap3⟩ := hown3.form
    clear hown3 hgr3 HN HCM
    generalize t.nodes = l at *
    by_cases h24 : 24 < l.length
    · rw [if_pos h24] at hRR
      subst hRR
      generalize l.length = n at *
      go_wp2_with fail
      go_ret2
      exact ⟨B3.out, rfl⟩
    · rw [if_neg h24] at hRR
      subst hRR
      obtain ⟨n, hn⟩ : ∃ n, l.length = n := ⟨_, rfl⟩
      rw [hn] at h24 hcap3 HO3 ⊢
      clear hn hlen
      go_wp2_with fail
      go_ret2
      exact ⟨B3.out, _, rfl, HO3.out⟩
end Go.Proofs.YtchemhjcknkbgaaGreatDoor

/- The walks for texts and numbers: how many there are, copies, comparisons. -/
namespace Go.Proofs.YtchemhjcknkbgaaGreatDoor
open Go Go.RowKit Go.PlainAid
set_option linter.unusedSimpArgs false
set_option linter.unusedVariables false

def strCell (l : List ByteArray) (j : Nat) : Value := .string (l.getD j noName)
theorem strs_at {l : List ByteArray} {k : Nat} (h : k < l.length) : l.getD k noName = l[k] := by
  rw [List.getD_eq_getElem?_getD, List.getElem?_eq_getElem h]; rfl

set_option maxHeartbeats 400000 in
theorem toStringS_open (B : Nat) (a : Option Addr) (n cap : Nat) (l : List ByteArray) (w : World) (hn : n ≤ 1048576) (hB : B ≤ w.heap.size) (hz : IsStrs B w a n l) :
    Calls Tryz.prog 118 #[.slice a n cap] w fun e w' => ∃ b, e = .returned (.slice (some ⟨b, 0, none⟩) n n) ∧ w.heap.size ≤ b ∧ IsStrs w'.heap.size w' (some ⟨b, 0, none⟩) n l ∧ Below w.heap.size w w' ∧ b < w'.heap.size ∧ ∀ j, j < n → w'.frozen? ⟨b, j, none⟩ = false := by
  obtain ⟨hlen, hcells⟩ := hz
  obtain ⟨i0, hi, hz0, hz1, hz2⟩ := info_parts infoStr
  have hmk : ∀ u : World, (Instr.makeSlice 28 (.int .i64 (n : Int)) (.int .i64 (n : Int))).run Tryz.prog u =
      .ok (.slice (some ⟨u.heap.size, 0, none⟩) n n) (u.alloc (.cells (madeCells #[.string ⟨#[]⟩] n) 9)) := fun u => by
    have h := run_make (P := Tryz.prog) u 28 9 i0 (.string ⟨#[]⟩) Tryz.underlying28 hi hz0 .i64 .i64 (n : Int) (n : Int) (by omega) (Int.le_refl _) (by rw [hz2]; omega) (by omega)
    have e : ((n : Int)).toNat = n := by omega
    rw [e] at h
    simpa [hz1, Value.cells] using h
  go_enter Tryz.func118, Tryz.ntmps118
  go_wp2
  go_loopw [4] (fun i wr => ∃ k : Nat, k ≤ n ∧ i = .int .i64 k ∧ Fill w.heap.size w wr n k (strCell l)) (fun i _ => n - (intOf i).toNat)
  case atStart =>
    have h := Fill.start w (madeCells #[.string ⟨#[]⟩] n) 9 (strCell l)
    rw [size_madeCells] at h
    exact ⟨0, Nat.zero_le _, rfl, h⟩
  case round =>
    obtain ⟨k, hk, rfl, hfill⟩ := hrel
    by_cases hlt : k < n
    · rcases hcells with h0 | ⟨b, off, rfl, hb, hc⟩
      · omega
      have c0 := (hfill.below.cell (p := ⟨b, off + k, none⟩) (by simp; omega)).trans (hc k (by omega))
      obtain ⟨x, hx⟩ : ∃ x, l[k]'(by omega) = x := ⟨_, rfl⟩
      rw [hx] at c0
      have HX : Hid (l.getD k noName = x) := (strs_at (by omega)).trans hx
      obtain ⟨v0, f0⟩ := hfill.there k (by omega)
      have hfz := hfill.open_
      have hsz := hfill.lt
      clear hmk hc hx
      go_wp2
      go_roundw
      case rel => exact ⟨k + 1, by omega, by go_num, hfill.store (by omega) (by unfold strCell; rw [HX.out])⟩
      case measure => simp [intOf]; omega
    · have : k = n := by omega
      subst this
      go_wp2
      go_ret
      refine ⟨_, rfl, Nat.le_refl _, ⟨hlen, .inr ⟨_, _, rfl, hfill.lt, fun i hi => ?_⟩⟩, hfill.below, hfill.lt, fun j _ => hfill.open_ j⟩
      have := hfill.done i (by omega)
      unfold strCell at this
      rw [strs_at hi] at this
      simpa using this
theorem toStringS_any (B : Nat) (a : Option Addr) (n cap : Nat) (l : List ByteArray) (w : World) (hn : n ≤ 1048576) (hB : B ≤ w.heap.size) (hz : IsStrs B w a n l) :
    Calls Tryz.prog 118 #[.slice a n cap] w fun e w' => ∃ b, e = .returned (.slice (some ⟨b, 0, none⟩) n n) ∧ w.heap.size ≤ b ∧ IsStrs w'.heap.size w' (some ⟨b, 0, none⟩) n l ∧ Below w.heap.size w w' := by
  refine (toStringS_open B a n cap l w hn hB hz).mono ?_
  rintro e w' ⟨b, h1, h2, h3, h4, _⟩
  exact ⟨b, h1, h2, h3, h4⟩

theorem eqStringS_same (B : Nat) (a a' : Option Addr) (n cap cap' : Nat) (l : List ByteArray) (w : World) (hn : n ≤ 1048576) (hB : B ≤ w.heap.size) (hz : IsStrs B w a n l) (hz' : IsStrs B w a' n l) :
    Calls Tryz.prog 9 #[.slice a n cap, .slice a' n cap'] w fun e w' => e = .returned (.bool true) ∧ Below w.heap.size w w' := by
  obtain ⟨hlen, hcells⟩ := hz
  obtain ⟨_, hcells'⟩ := hz'
  go_enter Tryz.func9, Tryz.ntmps9
  go_wp2
  go_loopw [5] (fun i wr => ∃ k : Nat, k ≤ n ∧ i = .int .i64 k ∧ Below w.heap.size w wr) (fun i _ => n - (intOf i).toNat)
  case atStart => exact ⟨0, Nat.zero_le _, rfl, Below.refl _ _⟩
  case round =>
    obtain ⟨k, hk, rfl, hbel⟩ := hrel
    by_cases hlt : k < n
    · rcases hcells with h0 | ⟨b, off, rfl, hb, hc⟩
      · omega
      rcases hcells' with h0 | ⟨b', off', rfl, hb', hc'⟩
      · omega
      have c0 := (hbel.cell (p := ⟨b, off + k, none⟩) (by simp; omega)).trans (hc k (by omega))
      have d0 := (hbel.cell (p := ⟨b', off' + k, none⟩) (by simp; omega)).trans (hc' k (by omega))
      generalize l[k]'(by omega) = x at c0 d0
      clear hc hc'
      go_wp2
      go_quiet (fail)
      go_wp2
      go_roundw
      case rel => exact ⟨k + 1, by omega, by go_num, drewN hbel _⟩
      case measure => simp [intOf]; omega
    · go_wp2
      go_ret
      exact ⟨rfl, hbel⟩

/-- what szStringS tells -/
def SzStr (n : Nat) (l : List ByteArray) (left : Int) (w : World) (e : Ending) (w' : World) : Prop :=
  ∃ r : Int, e = .returned (.int .i64 r) ∧ w' = w ∧ r ≤ left ∧ -1 ≤ r ∧ (0 ≤ r → n ≤ 1048576 ∧ ∀ x ∈ l, x.size ≤ 1048576)
set_option maxHeartbeats 800000 in
set_option maxRecDepth 100000 in
theorem szStringS_any (B : Nat) (a : Option Addr) (n cap : Nat) (l : List ByteArray) (left : Int) (w : World) (h0 : 0 ≤ left) (h1 : left ≤ 1048576) (hn : n ≤ maxLen) (hs : ∀ x ∈ l, x.size ≤ maxLen) (hz : IsStrs B w a n l) :
    Calls Tryz.prog 107 #[.slice a n cap, .int .i64 left] w fun e w' => SzStr n l left w e w' := by
  obtain ⟨hlen, hcells⟩ := hz
  unfold maxLen at hn hs
  have hw : IntKind.i64.wrap (left - n) = left - n := by rw [IntKind.wrap_i64]; omega
  by_cases h : left < n
  · clear hcells hs
    go_enter Tryz.func107, Tryz.ntmps107
    go_wp2_with fail
    go_ret
    exact ⟨-1, rfl, rfl, by omega, by omega, fun h => by omega⟩
  go_enter Tryz.func107, Tryz.ntmps107
  go_wp2_with fail
  go_loopw [1, 5] (fun v i wr => ∃ (k : Nat) (r : Int), k ≤ n ∧ i = .int .i64 k ∧ v = .int .i64 r ∧ 0 ≤ r ∧ r ≤ left ∧ Hid (∀ j, j < k → (l.getD j noName).size ≤ 1048576) ∧ wr = w) (fun _ i _ => n - (intOf i).toNat)
  case atStart => exact ⟨0, left - n, Nat.zero_le _, rfl, rfl, by omega, by omega, fun j hj => by omega, rfl⟩
  case round =>
    obtain ⟨k, r, hk, rfl, rfl, hr0, hr1, hdone, rfl⟩ := hrel
    by_cases hlt : k < n
    · rcases hcells with h0 | ⟨b, off, rfl, hb, hc⟩
      · omega
      obtain ⟨xs, hx⟩ : ∃ x, l[k]'(by omega) = x := ⟨_, rfl⟩
      have c0 := hc k (by omega)
      have hxs : xs.size ≤ 9223372036854775807 := by
        have := hs (l[k]'(by omega)) (List.getElem_mem _)
        rw [hx] at this; omega
      rw [hx] at c0
      have HX : Hid (l.getD k noName = xs) := (strs_at (by omega)).trans hx
      have hw2 : IntKind.i64.wrap (r - xs.size) = r - xs.size := by rw [IntKind.wrap_i64]; omega
      clear hc hx hs
      by_cases hrs : r < xs.size
      · go_wp2_with fail
        go_ret
        exact ⟨-1, rfl, rfl, by omega, by omega, fun h => by omega⟩
      · have q1 : r - (xs.size : Int) ≤ left := by omega
        have q2 : xs.size ≤ 1048576 := by omega
        go_wp2_with fail
        go_roundw
        case rel =>
          refine ⟨k + 1, r - xs.size, by omega, by go_num, rfl, by omega, q1, ?_, trivial⟩
          intro j hj
          by_cases e : j = k
          · subst e; rw [HX.out]; exact q2
          · exact hdone.out j (by omega)
        case measure => simp [intOf]; omega
    · have : k = n := by omega
      subst this
      go_wp2_with fail
      go_ret
      refine ⟨r, rfl, rfl, hr1, by omega, fun _ => ⟨by omega, fun x hx => ?_⟩⟩
      obtain ⟨j, hj, rfl⟩ := List.getElem_of_mem hx
      have := hdone.out j (by omega)
      rwa [strs_at hj] at this
end Go.Proofs.YtchemhjcknkbgaaGreatDoor

/- slices.Index at texts. -/
namespace Go.Proofs.YtchemhjcknkbgaaGreatDoor
open Go Go.RowKit Go.PlainAid
set_option linter.unusedSimpArgs false
set_option linter.unusedVariables false

set_option maxHeartbeats 800000 in
set_option maxRecDepth 100000 in
theorem index_any (B : Nat) (a : Option Addr) (n cap : Nat) (l : List ByteArray) (x : ByteArray) (w : World) (hn : n ≤ 1048576) (hz : IsStrs B w a n l) :
    Calls Tryz.prog 145 #[.slice a n cap, .string x] w fun e w' => e = .returned (.int .i64 (findM l x)) ∧ w' = w := by
  obtain ⟨hlen, hcells⟩ := hz
  obtain ⟨D, hD⟩ : ∃ D, findM l x = D := ⟨_, rfl⟩
  have HD : Hid (findM l x = D) := hD
  rw [hD]; clear hD
  go_enter Tryz.func145, Tryz.ntmps145
  go_wp2_with fail
  go_loopw [8] (fun i wr => ∃ k : Nat, k ≤ n ∧ i = .int .i64 k ∧ Hid (∀ j, (h : j < l.length) → j < k → l[j] ≠ x) ∧ wr = w) (fun i _ => n - (intOf i).toNat)
  case atStart => exact ⟨0, Nat.zero_le _, rfl, fun j _ h => by omega, rfl⟩
  case round =>
    obtain ⟨k, hk, rfl, hdone, rfl⟩ := hrel
    by_cases hlt : k < n
    · rcases hcells with h0 | ⟨b, off, rfl, hb, hc⟩
      · omega
      have hkl : k < l.length := by omega
      have hcx := hc k hkl
      obtain ⟨y, hy⟩ : ∃ y, l[k] = y := ⟨_, rfl⟩
      have HY : Hid (l[k] = y) := hy
      rw [hy] at hcx
      clear hc hy
      by_cases hxy : y = x
      · subst hxy
        have HN : Hid (D = k) := by
          show D = k
          rw [← HD.out]
          exact findM_at hkl HY.out (fun j hj => hdone.out j (by omega) hj)
        go_wp2_with fail
        go_ret
        exact ⟨ret_int HN.out.symm, rfl⟩
      · have e2' : (x.toList == y.toList) = false := by
          simp only [beq_eq_false_iff_ne, ne_eq]
          intro e; exact hxy (by rw [Lib.toList_data, Lib.toList_data] at e; exact ByteArray.ext (Array.toList_inj.1 e.symm))
        have HK : Hid (∀ j, (h : j < l.length) → j < k + 1 → l[j] ≠ x) := fun j h1 h2 => by
          rcases Nat.lt_or_ge j k with h3 | h3
          · exact hdone.out j h1 h3
          · have : j = k := by omega
            subst this
            rw [HY.out]; exact hxy
        clear hxy
        go_wp2_with fail
        go_roundw
        case rel => exact ⟨k + 1, by omega, by go_num, HK.out, trivial⟩
        case measure => simp [intOf]; omega
    · have HN : Hid (D = -1) := by
        show D = -1
        rw [← HD.out]
        exact findM_none (fun j hj => hdone.out j hj (by omega))
      go_wp2_with fail
      go_ret
      exact ⟨ret_int HN.out.symm, rfl⟩
end Go.Proofs.YtchemhjcknkbgaaGreatDoor

/- Arguments that came in, opened: texts and numbers. -/
namespace Go.Proofs.YtchemhjcknkbgaaGreatDoor
open Go.ChangeShapes Go.WideShapes Go.ChangeAt Go.RowKit Go.Deep Go.PlainAid
set_option linter.unusedVariables false
set_option linter.unusedSimpArgs false

/-- texts that came in -/
theorem open_texts {H : Type} {enc : TypeId × Value → H} {W : World} {base : Nat} {spare : Nat → Bool} {held : Bool} {fuel : Nat} {a0 : Option Addr} {len0 cap0 : Nat} {x : DataW H × List MemPlace}
    (h : DataW.trod enc Tryz.prog W base spare held fuel 28 (Value.slice a0 len0 cap0).cells.toList = some x) :
    ∃ l, len0 ≤ maxLen ∧ IsStrs W.heap.size W a0 len0 l ∧ ∀ y ∈ l, y.size ≤ maxLen := by
  rcases open_strs Tryz.underlying28 Tryz.underlying9 (by kernel_rfl) h with ⟨hcs, _⟩ | ⟨a, len, cap, m, Sx, hcs, hb, hl, hm, hmm, _, hel⟩
  · simp [Value.cells] at hcs
    obtain ⟨rfl, rfl, rfl⟩ := hcs
    exact ⟨[], by simp, ⟨rfl, .inl rfl⟩, (fun _ h => by simp at h)⟩
  · simp [Value.cells] at hcs
    obtain ⟨rfl, rfl, rfl⟩ := hcs
    have hlm : len0 ≤ m := by rw [hmm]; split <;> omega
    refine ⟨(List.range len0).map Sx, Nat.le_trans hl hm, ⟨by simp, ?_⟩, ?_⟩
    · by_cases hz : len0 = 0
      · exact .inl hz
      obtain ⟨b, off, spot⟩ := a
      have hc := (hel 0 (by omega)).1
      have hspot : spot = none := by simpa [Addr.add] using World.cell?_spot hc
      subst hspot
      refine .inr ⟨b, off, rfl, World.block_lt_of_cell? _ _ hc, fun i hi => ?_⟩
      simp at hi
      have := (hel i (by omega)).1
      rw [add_plain] at this
      simpa using this
    · intro y hy
      obtain ⟨i, hi, rfl⟩ := List.mem_map.1 hy
      exact (hel i (by have := List.mem_range.1 hi; omega)).2
end Go.Proofs.YtchemhjcknkbgaaGreatDoor
