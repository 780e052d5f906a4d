package tests

import (
	"cmp"
	"fmt"
	"math/rand"
	"reflect"
	"slices"
	"strings"

	"loop.example/telltale/impl"
)

// someSum is a sum of these names, as it is written; of no names it is of numbers alone.
func someSum(r *rand.Rand, names []string) string {
	for {
		t := someTree(r, 1+r.Intn(11))
		t.rename(r, names)
		if s := t.text(); len(s) <= impl.ExprMax && deepOf(s) <= impl.DeepMax {
			return s
		}
	}
}

// rename has other names in all places of a sum.
func (t *tree) rename(r *rand.Rand, names []string) {
	if t == nil {
		return
	}
	if t.kind == impl.NodeName && len(names) == 0 {
		*t = *numTree(r.Intn(3))
	} else if t.kind == impl.NodeName {
		t.name = names[r.Intn(len(names))]
	}
	t.left.rename(r, names)
	t.right.rename(r, names)
}

// someOf is some of a list, each once, at most so many, in any order.
func someOf(r *rand.Rand, list []string, most int) []string {
	list = slices.Clone(list)
	r.Shuffle(len(list), func(i, j int) { list[i], list[j] = list[j], list[i] })
	return list[:r.Intn(1+min(most, len(list)))]
}

func somePorts(r *rand.Rand, events []string, values []string) []impl.Port {
	var out []impl.Port
	for _, name := range someOf(r, events, impl.PortMax) {
		out = append(out, impl.Port{Name: name, Vals: someOf(r, values, impl.ValMax)})
	}
	return out
}

// someBlock is any block that is ok: moves without an event lead to later states of an order that is any, so that there is no ring.
func someBlock(r *rand.Rand) impl.Block {
	var b impl.Block
	for {
		b = impl.Block{Name: []string{"a", "gate", "b2", "zzzzzz"}[r.Intn(4)]}
		b.Ins = somePorts(r, []string{"in", "val", "e1", "go", "block"}, []string{"x", "y", "x1", "state", "k"})
		b.Outs = somePorts(r, []string{"out", "val", "e2", "tell", "f"}, []string{"p", "q", "q1", "set", "on"})
		for _, name := range someOf(r, []string{"c", "d", "var", "v99999", "w"}, impl.VarMax) {
			b.Vars = append(b.Vars, impl.Var{Name: name, Num: []int{0, 1, -1, 7, 999999, -999999}[r.Intn(6)]})
		}
		if len(wantNames(b)) <= impl.SlotMax {
			break
		}
	}
	full := r.Intn(6) == 0
	names := []string{"open", "shut", "no", "s1", "x"}
	if !full {
		names = append(someOf(r, names, impl.StateMax-1), "c")
	}
	for at, name := range names {
		b.States = append(b.States, impl.State{Name: name, Moves: someMoves(r, b, names, at, full), Acts: someActs(r, b, full)})
	}
	r.Shuffle(len(b.States), func(i, j int) { b.States[i], b.States[j] = b.States[j], b.States[i] })
	return b
}

// someCount is at most so many; just so many, if all is to be full.
func someCount(r *rand.Rand, most int, full bool) int {
	if full {
		return most
	}
	return r.Intn(most + 1)
}

func someMoves(r *rand.Rand, b impl.Block, states []string, at int, full bool) []impl.Move {
	var out []impl.Move
	for range someCount(r, impl.MoveMax, full) {
		m := impl.Move{When: someSum(r, wantNames(b))}
		if r.Intn(3) == 0 {
			m.When = "1"
		}
		if at+1 < len(states) && (len(b.Ins) == 0 || r.Intn(3) == 0) {
			m.To = states[at+1+r.Intn(len(states)-at-1)]
		} else if len(b.Ins) > 0 {
			m.Event = b.Ins[r.Intn(len(b.Ins))].Name
			m.To = states[r.Intn(len(states))]
		} else {
			continue
		}
		out = append(out, m)
	}
	return out
}

func someActs(r *rand.Rand, b impl.Block, full bool) []impl.Act {
	var out []impl.Act
	free := append(valuesOf(b.Outs), varNames(b)...)
	for range someCount(r, impl.ActMax, full) {
		if len(b.Outs) > 0 && r.Intn(2) == 0 {
			out = append(out, impl.Act{Kind: impl.ActTell, Name: b.Outs[r.Intn(len(b.Outs))].Name})
		} else if len(free) > 0 {
			out = append(out, impl.Act{Kind: impl.ActSet, Name: free[r.Intn(len(free))], Sum: someSum(r, wantNames(b))})
		}
	}
	return out
}

func varNames(b impl.Block) []string {
	var out []string
	for _, v := range b.Vars {
		out = append(out, v.Name)
	}
	return out
}

// valuesOf is the names of values of events, each once.
func valuesOf(ports []impl.Port) []string {
	seen := map[string]bool{}
	var out []string
	for _, p := range ports {
		for _, name := range p.Vals {
			if !seen[name] {
				out = append(out, name)
			}
			seen[name] = true
		}
	}
	return out
}

// wantNames is the names that the document asks for.
func wantNames(b impl.Block) []string {
	return append(append(valuesOf(b.Ins), valuesOf(b.Outs)...), varNames(b)...)
}

// wantText is the text that the document asks for.
func wantText(b impl.Block) string {
	var s strings.Builder
	fmt.Fprintf(&s, "block %s\n", b.Name)
	for i, ports := range [][]impl.Port{b.Ins, b.Outs} {
		for _, p := range ports {
			s.WriteString([]string{"in ", "out "}[i] + p.Name)
			for j, name := range p.Vals {
				s.WriteString([]string{" ", ","}[min(j, 1)] + name)
			}
			s.WriteString("\n")
		}
	}
	for _, v := range b.Vars {
		fmt.Fprintf(&s, "var %s %d\n", v.Name, v.Num)
	}
	for _, st := range b.States {
		fmt.Fprintf(&s, "state %s\n", st.Name)
		for _, m := range st.Moves {
			if m.Event == "" {
				fmt.Fprintf(&s, "on - %s %s\n", m.To, m.When)
			} else {
				fmt.Fprintf(&s, "on %s %s %s\n", m.Event, m.To, m.When)
			}
		}
		for _, a := range st.Acts {
			if a.Kind == impl.ActTell {
				fmt.Fprintf(&s, "tell %s\n", a.Name)
			} else {
				fmt.Fprintf(&s, "set %s %s\n", a.Name, a.Sum)
			}
		}
	}
	return s.String()
}

// badNames says whether there are too many texts, one is no name, or two are one.
func badNames(list []string, most int) bool {
	seen := map[string]bool{}
	for _, s := range list {
		if !impl.NameOk(s) || seen[s] {
			return true
		}
		seen[s] = true
	}
	return len(list) > most
}

// badHead is all that the document names FormName ahead of the states.
func badHead(b impl.Block) bool {
	bad := badNames([]string{b.Name}, 1)
	for _, ports := range [][]impl.Port{b.Ins, b.Outs} {
		var events []string
		for _, p := range ports {
			events = append(events, p.Name)
			bad = bad || badNames(p.Vals, impl.ValMax)
		}
		bad = bad || badNames(events, impl.PortMax)
	}
	for _, v := range b.Vars {
		bad = bad || v.Num < -999999 || v.Num > 999999
	}
	var states []string
	for _, s := range b.States {
		states = append(states, s.Name)
	}
	return bad || badNames(varNames(b), impl.VarMax) || badNames(states, impl.StateMax) || badNames(wantNames(b), impl.SlotMax)
}

func badSum(s string, names []string) bool {
	list, ok := impl.ExprGet(s)
	if !ok || impl.ExprPut(list) != s {
		return true
	}
	for _, n := range list {
		if n.Kind == impl.NodeName && !slices.Contains(names, n.Name) {
			return true
		}
	}
	return false
}

func hasPort(ports []impl.Port, name string) bool {
	return slices.ContainsFunc(ports, func(p impl.Port) bool { return p.Name == name })
}

func stateOf(b impl.Block, name string) int {
	return slices.IndexFunc(b.States, func(s impl.State) bool { return s.Name == name })
}

// wantCheck is the code that the document asks for.
func wantCheck(b impl.Block) int {
	if badHead(b) {
		return impl.FormName
	}
	if len(b.States) == 0 {
		return impl.FormState
	}
	names := wantNames(b)
	for _, s := range b.States {
		if len(s.Moves) > impl.MoveMax || len(s.Acts) > impl.ActMax {
			return impl.FormName
		}
		for _, m := range s.Moves {
			if m.Event != "" && !hasPort(b.Ins, m.Event) {
				return impl.FormEvent
			}
			if stateOf(b, m.To) < 0 {
				return impl.FormState
			}
			if badSum(m.When, names) {
				return impl.FormSum
			}
		}
		for _, a := range s.Acts {
			if code := wantActCheck(b, a, names); code != impl.FormFine {
				return code
			}
		}
	}
	for at := range b.States {
		if comesBack(b, at, at, len(b.States)) {
			return impl.FormRing
		}
	}
	return impl.FormFine
}

func wantActCheck(b impl.Block, a impl.Act, names []string) int {
	if a.Kind == impl.ActTell && a.Sum == "" {
		if !hasPort(b.Outs, a.Name) {
			return impl.FormEvent
		}
		return impl.FormFine
	}
	if a.Kind != impl.ActSet || !slices.Contains(append(valuesOf(b.Outs), varNames(b)...), a.Name) {
		return impl.FormSet
	}
	if badSum(a.Sum, names) {
		return impl.FormSum
	}
	return impl.FormFine
}

// comesBack says whether moves without an event lead from a state to another one in at most so many.
func comesBack(b impl.Block, from, to, steps int) bool {
	if steps == 0 {
		return false
	}
	for _, m := range b.States[from].Moves {
		if at := stateOf(b, m.To); m.Event == "" && (at == to || comesBack(b, at, to, steps-1)) {
			return true
		}
	}
	return false
}

// toldFrom is how often an event is told at most from a state on, its own acts first.
func toldFrom(b impl.Block, at int, out string) int {
	own, most := 0, 0
	for _, a := range b.States[at].Acts {
		if a.Kind == impl.ActTell && a.Name == out {
			own++
		}
	}
	for _, m := range b.States[at].Moves {
		if m.Event == "" {
			most = max(most, toldFrom(b, stateOf(b, m.To), out))
		}
	}
	return own + most
}

func wantMost(b impl.Block, out string) int {
	most := 0
	for _, s := range b.States {
		for _, m := range s.Moves {
			most = max(most, toldFrom(b, stateOf(b, m.To), out))
		}
	}
	return most
}

// wantStep is the step that the document asks for, by names and sums.
func wantStep(b impl.Block, x impl.Inst, in int, vals []int) (impl.Inst, []impl.Tell) {
	names := wantNames(b)
	now := slices.Clone(x.Vals)
	for i, name := range b.Ins[in].Vals {
		now[slices.Index(names, name)] = vals[i]
	}
	var told []impl.Tell
	state := x.State
	event := b.Ins[in].Name
next:
	for _, m := range b.States[state].Moves {
		if (m.Event == "" || m.Event == event) && impl.ExprRun(mustGet(m.When), names, now) != 0 {
			state = stateOf(b, m.To)
			for _, a := range b.States[state].Acts {
				if a.Kind == impl.ActSet {
					now[slices.Index(names, a.Name)] = impl.ExprRun(mustGet(a.Sum), names, now)
					continue
				}
				out := slices.IndexFunc(b.Outs, func(p impl.Port) bool { return p.Name == a.Name })
				tell := impl.Tell{Out: out}
				for _, name := range b.Outs[out].Vals {
					tell.Vals = append(tell.Vals, now[slices.Index(names, name)])
				}
				told = append(told, tell)
			}
			event = "no event has this name"
			goto next
		}
	}
	return impl.Inst{State: state, Vals: now}, told
}

// same says whether two things are equal; the empty list and none are.
func same(a, b any) bool {
	return sameValue(reflect.ValueOf(a), reflect.ValueOf(b))
}

func sameValue(a, b reflect.Value) bool {
	switch a.Kind() {
	case reflect.Slice:
		if a.Len() != b.Len() {
			return false
		}
		for i := range a.Len() {
			if !sameValue(a.Index(i), b.Index(i)) {
				return false
			}
		}
		return true
	case reflect.Struct:
		for i := range a.NumField() {
			if !sameValue(a.Field(i), b.Field(i)) {
				return false
			}
		}
		return true
	}
	return a.Interface() == b.Interface()
}

// copyOf is a thing all of whose lists are new, with empty room behind their ends.
func copyOf[T any](x T) T {
	var out T
	copyInto(reflect.ValueOf(&out).Elem(), reflect.ValueOf(x))
	return out
}

func copyInto(to, from reflect.Value) {
	switch from.Kind() {
	case reflect.Slice:
		list := reflect.MakeSlice(from.Type(), from.Len(), from.Len()+2)
		for i := range from.Len() {
			copyInto(list.Index(i), from.Index(i))
		}
		to.Set(list)
	case reflect.Struct:
		for i := range from.NumField() {
			copyInto(to.Field(i), from.Field(i))
		}
	default:
		to.Set(from)
	}
}

// eachList gives all lists of a thing, those within lists too.
func eachList(x reflect.Value, give func(reflect.Value)) {
	switch x.Kind() {
	case reflect.Slice:
		give(x)
		for i := range x.Len() {
			eachList(x.Index(i), give)
		}
	case reflect.Struct:
		for i := range x.NumField() {
			eachList(x.Field(i), give)
		}
	}
}

// roomIsEmpty says whether nothing stands behind the ends of all lists of a thing that copyOf made.
func roomIsEmpty(x any) bool {
	empty := true
	eachList(reflect.ValueOf(x), func(list reflect.Value) {
		room := list.Slice(0, list.Cap())
		for i := list.Len(); i < list.Cap(); i++ {
			empty = empty && room.Index(i).IsZero()
		}
	})
	return empty
}

// areApart says whether no two lists of these things share memory, with all room behind their ends.
func areApart(things ...any) bool {
	type span struct{ from, to uintptr }
	var spans []span
	for _, x := range things {
		eachList(reflect.ValueOf(x), func(list reflect.Value) {
			if list.Cap() > 0 {
				from := list.Pointer()
				spans = append(spans, span{from, from + uintptr(list.Cap())*list.Type().Elem().Size()})
			}
		})
	}
	slices.SortFunc(spans, func(a, b span) int { return cmp.Compare(a.from, b.from) })
	for i := 1; i < len(spans); i++ {
		if spans[i].from < spans[i-1].to {
			return false
		}
	}
	return true
}

// mustBlock is the block of a text that is one.
func mustBlock(s string) impl.Block {
	b, ok := impl.BlockGet(s)
	if !ok {
		panic("not read: " + s)
	}
	return b
}

// spoilt is a text in which a few bytes are others, are gone, or have come.
func spoilt(r *rand.Rand, s string) string {
	bytes := "abcpqx12,. -\n()+<=0"
	text := []byte(s)
	for range 1 + r.Intn(2) {
		at := r.Intn(len(text))
		switch c := bytes[r.Intn(len(bytes))]; r.Intn(3) {
		case 0:
			text[at] = c
		case 1:
			text = slices.Insert(text, at, c)
		case 2:
			text = slices.Delete(text, at, at+1)
		}
	}
	return string(text)
}
