/- What comes of beats, as an iterator without an end: the walk. -/
import Derived.Test.YtlpdilmdhfemdaaComing
import Derived.Test.YtlpdilmdhfemdaaLeastF
namespace Go.Proofs.Ytlpdilmdhfemdaa
open Go Go.RowKit Go.PlainAid Go.Shelf
set_option linter.unusedSimpArgs false
set_option linter.unusedVariables false
attribute [local go_sem] Oper.semAt_some

/-- what is so between two rounds of the iterator, f rounds ahead of the last -/
def ComR (lo N : Nat) (v : Value) (bs : List Nat) (ps : List Pu) (J : Nat → World → Prop) (wr : World) (f : Nat) : Prop :=
  ∃ k, k + f = N ∧ Puls lo wr v bs (stP ps k) ∧ J k wr ∧ (ps ≠ [] ∨ k = 0)
def encF (ps : List Pu) (k : Nat) : Array Value := #[.agg #[.int .i64 (fireP (stP ps k)).1, .int .i64 (fireP (stP ps k)).2]]

set_option maxRecDepth 100000 in
set_option maxHeartbeats 4000000 in
theorem comingStream (n B : Nat) (a : Option Addr) (na ca : Nat) (l : List Bt) (t : Int) (q1 q2 : Nat) (w : World) (hB : B ≤ w.heap.size) (hn : na ≤ 1048576) (hz : IsBts B w a na l) (hl : ∀ x ∈ l, btB x = true) (ht : 0 ≤ t ∧ t ≤ 9999)
    (h1 : q1 < w.heap.size) (h2 : q2 < w.heap.size) (c1 : w.cell? ⟨q1, 0, none⟩ = some (.slice a na ca)) (c2 : w.cell? ⟨q2, 0, none⟩ = some (.int .i64 t)) :
    Stream Fence.wide n Try.prog 41 #[.pointer (some ⟨q1, 0, none⟩), .pointer (some ⟨q2, 0, none⟩)] (encF (l.map (pulM t))) (l = []) w := by
  intro ly J Jx N W hW hN hJ hJx hJs hY h0
  have hws := hW.size
  have d1 := (hW.cell (p := ⟨q1, 0, none⟩) h1).trans c1
  have d2 := (hW.cell (p := ⟨q2, 0, none⟩) h2).trans c2
  have HL := hidOf (listOfPulse_any B a na ca l q2 t W (Nat.le_trans hB hws) hn (hz.belowBt (hW.mono hB)) hl ht (Nat.lt_of_lt_of_le h2 hws) d2)
  have HTB : Hid (TimesB 29997 (l.map (pulM t))) := fun x hx => by
    obtain ⟨y, hy, rfl⟩ := List.mem_map.1 hx
    exact pulM_bound (hl y hy) ht
  have hlen := hz.1
  have HE : Hid (l.map (pulM t) = [] ↔ l = []) := List.map_eq_nil_iff
  have hlp : (l.map (pulM t)).length = na := by simp [hlen]
  obtain ⟨ps, hps⟩ : ∃ ps, l.map (pulM t) = ps := ⟨_, rfl⟩
  rw [hps] at HL HTB HE hlp hY
  have HLP := hidOf hlp
  have HY := hidOf hY
  have H0 := hidOf h0
  have HJ := hidOf hJ
  have HJX := hidOf hJx
  have HJS := hidOf hJs
  clear hz hl c1 c2 d2 hps hlen hlp hY h0 hJ hJx hJs hW
  refine callsIn_of_wp Try.func41 rfl trivial ?_ rfl
  simp only [Try.ntmps41, List.size_toArray, List.length_cons, List.length_nil, Nat.reduceAdd, Nat.reduceSub, Array.replicate_succ, Array.replicate_zero, List.push_toArray, List.append_toArray, List.nil_append, List.cons_append]
  gi_wp2_with fail
  refine ⟨trivial, fun h => by simp [Fence.wide] at h, (callsIn_wide.2 HL.out).mono ?_⟩
  rintro e W1 ⟨v, bs, rfl, hP, hbl⟩
  have HP := hidOf hP
  have HB := hidOf hbl
  clear hP hbl
  have HJ0 : Hid (J W1.heap.size 0 W1) := H0.out W1 HB.out
  obtain ⟨h, hh⟩ : ∃ h, W1.heap.size = h := ⟨_, rfl⟩
  have hvl : ∃ g0 cap0, v = .slice g0 na cap0 := by
    by_cases hne : ps = []
    · have hb0 : bs = [] := List.length_eq_zero_iff.1 (by rw [HP.out.len, hne]; rfl)
      have hr := HP.out.row.2
      have hn0 : na = 0 := by rw [← HLP.out, hne]; rfl
      rcases hr with ⟨rfl, _⟩ | ⟨g, cap, cur, rfl, _⟩
      · exact ⟨none, 0, by rw [hn0]⟩
      · exact ⟨_, cap, by rw [hb0, hn0]; rfl⟩
    · obtain ⟨g, cap, rfl, _⟩ := HP.out.form hne
      exact ⟨_, cap, by rw [HP.out.len, HLP.out]⟩
  obtain ⟨g0, cap0, rfl⟩ := hvl
  rw [hh] at HJ0
  have hh2 : W.heap.size ≤ h := by have := HB.out.size; omega
  have HP0 : Hid (Puls W.heap.size W1 (.slice g0 na cap0) bs (stP ps 0)) := HP.out
  have HH := hidOf hh
  have HBL : Hid (∀ i, (hi : i < bs.length) → bs[i] < h) := fun i hi => by
    have := (HP.out.each i hi (by rw [← HP.out.len]; exact hi)).2.lt
    rw [HH.out] at this
    exact this
  clear hh HP
  gi_wp2_with fail
  gi_loopw [8] (fun _ wr => ∃ f, ComR W.heap.size N (.slice g0 na cap0) bs ps (fun k W => J h k W) wr f) (fun _ wr => Least.of (ComR W.heap.size N (.slice g0 na cap0) bs ps (fun k W => J h k W) wr))
  case atStart => exact ⟨N, 0, by omega, HP0.out, HJ0.out, .inr rfl⟩
  case round =>
    have hrel2 := Least.spec hrel
    obtain ⟨f, hf⟩ : ∃ f, Least.of (ComR W.heap.size N (.slice g0 na cap0) bs ps (fun k W => J h k W) wr) = f := ⟨_, rfl⟩
    rw [hf] at hrel2
    have HF := hidOf hf
    obtain ⟨k, hkf, hP, hj, hk0⟩ := hrel2
    have HK0 := hidOf hk0
    have HPK := hidOf hP
    have HJK := hidOf hj
    clear hf hP hj hrel hk0
    by_cases h0 : na = 0
    · subst h0
      gi_wp2_with fail
      refine ⟨trivial, ?_⟩
      gi_wp2_with fail
      refine ⟨trivial, ?_⟩
      gi_wp2_with fail
      refine ⟨fun _ h => (by cases h), ?_⟩
      gi_wp2
      go_end0
      have hpe : ps = [] := List.length_eq_zero_iff.1 HLP.out
      obtain rfl : k = 0 := HK0.out.resolve_left (fun h => h hpe)
      exact ⟨⟨_, rfl⟩, h, .inl ⟨HE.out.1 hpe, HJK.out⟩⟩
    · have hne : ps ≠ [] := fun e => h0 (by rw [← HLP.out, e]; rfl)
      have hna : (0 : Int) < (na : Int) := by omega
      have hnek : stP ps k ≠ [] := fun e => h0 (by rw [← HLP.out, ← stP_len ps k, e]; rfl)
      have HMIN := hidOf (minFunc_any W.heap.size _ bs (stP ps k) wr HPK.out hnek (by rw [stP_len, HLP.out]; exact hn))
      have hmi := minI_lt hnek
      have hlenk := HPK.out.len
      have hmb : minI (stP ps k) < bs.length := by omega
      have HEA := hidOf (HPK.out.each _ hmb hmi)
      have HTK := hidOf ((HTB.out.at hne k) _ (List.getElem_mem hmi))
      have HGO := hidOf (fun W' t hp hs hb => HPK.out.go (W' := W') hmb hmi t hp hs hb)
      have hLT := HBL.out _ hmb
      have hst : stP ps (k + 1) = (stP ps k).set (minI (stP ps k)) (((stP ps k)[minI (stP ps k)]).1 + ((stP ps k)[minI (stP ps k)]).2.2, ((stP ps k)[minI (stP ps k)]).2) := by
        show stepP (stP ps k) = _
        unfold stepP
        rw [show (stP ps k).getD (minI (stP ps k)) (0, 0, 0) = (stP ps k)[minI (stP ps k)] by simp [hmi]]
      have hen : encF ps k = #[.agg #[.int .i64 ((stP ps k)[minI (stP ps k)]).1, .int .i64 ((stP ps k)[minI (stP ps k)]).2.1]] := by
        unfold encF fireP
        rw [show (stP ps k).getD (minI (stP ps k)) (0, 0, 0) = (stP ps k)[minI (stP ps k)] by simp [hmi]]
      have hbd : bs.getD (minI (stP ps k)) 0 = bs[minI (stP ps k)] := by simp [hmb]
      rw [hbd] at HMIN
      obtain ⟨pb, hpb⟩ : ∃ pb, bs[minI (stP ps k)] = pb := ⟨_, rfl⟩
      obtain ⟨x, hx⟩ : ∃ x, (stP ps k)[minI (stP ps k)] = x := ⟨_, rfl⟩
      rw [hpb] at HMIN HEA hLT
      rw [hx] at HEA HTK hst hen
      have HST := hidOf hst
      have HEN := hidOf hen
      have HG2 : Hid (∀ W', PulAt W' pb (x.1 + x.2.2, x.2) → wr.heap.size ≤ W'.heap.size → (∀ j, j < wr.heap.size → j ≠ pb → W'.heap[j]? = wr.heap[j]?) → Puls W.heap.size W' (.slice g0 na cap0) bs (stP ps (k + 1))) := fun W' hp hs hb => by
        have := HGO.out W' (x.1 + x.2.2) (by rw [hpb, hx]; exact hp) hs (by rw [hpb]; exact hb)
        rw [hx] at this
        rw [HST.out]
        exact this
      have hkN : k ≤ 1000000 := by omega
      clear hst hen hbd hpb hx HGO hlenk hmb hmi hnek
      obtain ⟨x0, x1, x2⟩ := x
      gi_wp2_with fail
      refine ⟨trivial, fun h => by simp [Fence.wide] at h, (callsIn_wide.2 HMIN.out).mono ?_⟩
      rintro e w2 ⟨rfl, hb2⟩
      unfold ptrV
      have HB2 := hidOf hb2
      have HN := hidOf (next_any pb (x0, x1, x2) w2 (HEA.out.2.below hb2) (by have := HTK.out; dsimp only at this ⊢; omega))
      clear hb2
      gi_wp2_with fail
      refine ⟨trivial, fun h => by simp [Fence.wide] at h, (callsIn_wide.2 HN.out).mono ?_⟩
      rintro e w3 ⟨rfl, hp3, hs3, ho3, ht3, hu3, hk3⟩
      have HT3 : Hid (Turned W.heap.size h wr w3) := (Turned.of_below HB2.out).trans ⟨ho3, ht3, hu3, hs3, fun j hj hn => hk3 j hj (by have := HEA.out.1; omega)⟩
      have HP3 : Hid (Puls W.heap.size w3 (.slice g0 na cap0) bs (stP ps (k + 1))) := HG2.out w3 hp3 HT3.out.size (fun j hj hne => (hk3 j (Nat.lt_of_lt_of_le hj HB2.out.size) hne).trans (HB2.out.block j hj))
      obtain ⟨fn, tmps, assign, body, hy, hR⟩ := HY.out h k w3 (fun e => hne (HE.out.2 e)) (HJ.out _ _ _ _ HJK.out HT3.out)
      rw [HEN.out] at hy
      try dsimp only at hy
      have HHS := hidOf (HJS.out _ _ _ (HJ.out _ _ _ _ HJK.out HT3.out))
      clear hp3 hs3 ho3 ht3 hu3 hk3
      gi_wp2_with fail
      refine ⟨fun h => by simp [Fence.wide] at h, hR.mono ?_⟩
      rintro e w4 (⟨rfl, hkN2, hj4, hst4⟩ | ⟨rfl, hx4⟩)
      · have HJ4 := hidOf hj4
        have HP4 : Hid (Puls W.heap.size w4 (.slice g0 na cap0) bs (stP ps (k + 1))) := by
          refine ⟨HP3.out.len, own_of_block HP3.out.row (fun q hq => ?_), fun i hi hi' => ⟨(HP3.out.each i hi hi').1, (HP3.out.each i hi hi').2.of (hst4.2 _ (HP3.out.each i hi hi').1 (HBL.out i hi))⟩, HP3.out.up⟩
          have h6 := (World.ownsRow.lt HP0.out.row q hq).2
          rw [HH.out] at h6
          exact hst4.2 q (World.ownsRow.lt HP3.out.row q hq).1 h6
        clear hj4 hst4
        gi_wp2_with fail
        go_roundw
        case rel => exact ⟨f - 1, k + 1, by omega, HP4.out, HJ4.out, .inl hne⟩
        case measure =>
          have h7 := Least.le (p := ComR W.heap.size N (.slice g0 na cap0) bs ps (fun k W => J h k W) w4) (n := f - 1) ⟨k + 1, by omega, HP4.out, HJ4.out, .inl hne⟩
          have h8 := HF.out
          omega
      · have HX4 := hidOf hx4
        clear hx4
        gi_wp2_with fail
        go_end0
        exact ⟨⟨_, rfl⟩, h, .inr ⟨k, HX4.out⟩⟩
end Go.Proofs.Ytlpdilmdhfemdaa
