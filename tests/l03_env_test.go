package tests

import (
	"maps"
	"math"
	"slices"
	"strconv"
	"strings"
	"testing"
	"unsafe"

	"loop.example/g00243/impl"
)

const smallLetters = "abcdefghijklmnopqrstuvwxyz"

// env is a list of names with numbers, told in turn: env("a", 1, "b", -2).
func env(pairs ...any) []impl.Var {
	list := []impl.Var{}
	for i := 0; i < len(pairs); i += 2 {
		list = append(list, impl.Var{Name: pairs[i].(string), Num: pairs[i+1].(int)})
	}
	return list
}

// fullEnv has MaxVars names, with room for others ahead of, between and behind them.
func fullEnv() []impl.Var {
	return env("b", 1, "d", 2, "f", 3, "h", 4, "j", 5, "l", 6)
}

func slowVarName(s string) bool {
	return s != "" && len(s) < 5 && strings.Trim(s, smallLetters) == ""
}

func slowEnvOk(list []impl.Var) bool {
	for i, v := range list {
		if i > 5 || !slowVarName(v.Name) || v.Num > 9999 || v.Num < -9999 {
			return false
		}
		for _, later := range list[i+1:] {
			if later.Name <= v.Name {
				return false
			}
		}
	}
	return true
}

// slowSet puts the number where the name is, or else the name ahead of the first greater one, as the document's words do.
func slowSet(list []impl.Var, name string, num int) ([]impl.Var, bool) {
	set := slices.Clone(list)
	if at := slices.IndexFunc(set, func(v impl.Var) bool { return v.Name == name }); at >= 0 {
		set[at].Num = num
	} else {
		at := slices.IndexFunc(set, func(v impl.Var) bool { return v.Name > name })
		if at < 0 {
			at = len(set)
		}
		set = slices.Insert(set, at, impl.Var{Name: name, Num: num})
	}
	if !slowEnvOk(set) {
		return list, false
	}
	return set, true
}

// envsOf calls each with every list of at most this length of these, in every order, also with one of them twice.
func envsOf(pool []impl.Var, length int, each func(list []impl.Var)) {
	var grow func(list []impl.Var)
	grow = func(list []impl.Var) {
		each(list)
		if len(list) == length {
			return
		}
		for _, v := range pool {
			grow(append(slices.Clone(list), v))
		}
	}
	grow([]impl.Var{})
}

// rightEnvs calls each with every right list of these names, each with a number of its own.
func rightEnvs(names []string, each func(list []impl.Var)) {
	for chosen := range 1 << len(names) {
		list := []impl.Var{}
		for i, name := range names {
			if chosen>>i%2 == 1 {
				list = append(list, impl.Var{Name: name, Num: 10*i - 30})
			}
		}
		if len(list) <= impl.MaxVars {
			each(list)
		}
	}
}

// wrongEnvs are lists that EnvOk refuses, each for one cause.
func wrongEnvs() map[string][]impl.Var {
	return map[string][]impl.Var{
		"one too many":       append(fullEnv(), impl.Var{Name: "n", Num: 7}),
		"far too many":       append(fullEnv(), env("n", 7, "p", 8, "r", 9, "t", 10)...),
		"does not ascend":    env("b", 1, "a", 2),
		"ascends but at end": env("a", 1, "c", 2, "b", 3),
		"a beginning behind": env("ab", 1, "a", 2),
		"a name twice":       env("a", 1, "a", 2),
		"twice, far off":     env("a", 1, "b", 2, "a", 3),
		"twice, all alike":   env("b", 1, "b", 1),
		"an empty name":      env("", 1, "a", 2),
		"five letters":       env("abcde", 1, "b", 2),
		"a great letter":     env("A", 1, "a", 2),
		"a figure":           env("a", 1, "a1", 2),
		"a blank":            env("a", 1, "b ", 2),
		"a rune":             env("a", 1, "é", 2),
		"beyond":             env("a", 1, "b", impl.MaxNum+1),
		"beyond below":       env("a", -impl.MaxNum-1, "b", 2),
		"greatest int":       env("a", math.MaxInt, "b", 2),
		"least int":          env("a", 1, "b", math.MinInt),
	}
}

func checkEnv(t *testing.T, what string, got, want []impl.Var) {
	t.Helper()
	if !slices.Equal(got, want) {
		t.Fatalf("%s: %v; want %v", what, got, want)
	}
}

func checkSet(t *testing.T, list []impl.Var, name string, num int, want []impl.Var) {
	t.Helper()
	got, ok := impl.EnvSet(list, name, num)
	if !ok || !slices.Equal(got, want) {
		t.Fatalf("EnvSet(%v, %q, %d) = %v, %v; want %v, true", list, name, num, got, ok, want)
	}
}

func refuseSet(t *testing.T, list []impl.Var, name string, num int) {
	t.Helper()
	got, ok := impl.EnvSet(list, name, num)
	if ok || !slices.Equal(got, list) {
		t.Fatalf("EnvSet(%v, %q, %d) = %v, %v; want the list as it is, false", list, name, num, got, ok)
	}
}

func checkGet(t *testing.T, list []impl.Var, name string, want int) {
	t.Helper()
	if got, ok := impl.EnvGet(list, name); !ok || got != want {
		t.Fatalf("EnvGet(%v, %q) = %d, %v; want %d, true", list, name, got, ok, want)
	}
}

func refuseGet(t *testing.T, list []impl.Var, name string) {
	t.Helper()
	if got, ok := impl.EnvGet(list, name); ok || got != 0 {
		t.Fatalf("EnvGet(%v, %q) = %d, %v; want 0, false", list, name, got, ok)
	}
}

func TestVarNameLengths(t *testing.T) {
	for length, want := range []bool{false, true, true, true, true, false, false} {
		for _, letter := range []string{"a", "m", "z"} {
			if name := strings.Repeat(letter, length); impl.VarName(name) != want {
				t.Errorf("VarName(%q) is not %v", name, want)
			}
		}
	}
	if impl.VarName(strings.Repeat("a", 260)) {
		t.Error("VarName takes 260 letters")
	}
}

func TestVarNameBytes(t *testing.T) {
	for b := range 256 {
		one := string([]byte{byte(b)})
		for _, name := range []string{one, one + "a", "a" + one, "ab" + one + "c", "abc" + one} {
			if got, want := impl.VarName(name), b >= 'a' && b <= 'z'; got != want {
				t.Errorf("VarName(%q) = %v", name, got)
			}
		}
	}
	textsOf("az`{A0 ", 5, func(text string) {
		if got := impl.VarName(text); got != slowVarName(text) {
			t.Fatalf("VarName(%q) = %v", text, got)
		}
	})
}

func TestEnvOkTakes(t *testing.T) {
	for _, list := range [][]impl.Var{
		nil,
		env(),
		env("a", 0),
		env("z", -1),
		env("abcd", 1, "z", 1),
		env("a", 2, "ab", 2, "abc", 2, "abcd", 2, "b", 2),
		env("a", impl.MaxNum, "b", -impl.MaxNum),
		env("zy", 1, "zz", 0),
		fullEnv(),
	} {
		if !impl.EnvOk(list) {
			t.Errorf("EnvOk(%v) = false", list)
		}
	}
}

func TestEnvOkRefuses(t *testing.T) {
	for cause, list := range wrongEnvs() {
		if impl.EnvOk(list) {
			t.Errorf("%s: EnvOk(%v) = true", cause, list)
		}
	}
}

// What is wrong is found wherever it stands.
func TestEnvOkAtEachPlace(t *testing.T) {
	for at := range impl.MaxVars {
		for _, num := range []int{impl.MaxNum, -impl.MaxNum} {
			list := fullEnv()
			list[at].Num = num
			if !impl.EnvOk(list) {
				t.Errorf("EnvOk(%v) = false", list)
			}
			list[at].Num += num / impl.MaxNum
			if impl.EnvOk(list) {
				t.Errorf("EnvOk(%v) = true", list)
			}
		}
		list := fullEnv()
		list[at].Name += "abcd"
		if impl.EnvOk(list) {
			t.Errorf("EnvOk(%v) = true", list)
		}
		if at > 0 {
			list = fullEnv()
			list[at].Name = list[at-1].Name
			if impl.EnvOk(list) {
				t.Errorf("EnvOk(%v) = true", list)
			}
		}
	}
}

func TestEnvOkOfManyLists(t *testing.T) {
	pool := env("", 0, "a", 1, "ab", -9999, "b", 9999, "b", 10000, "c", -10000, "abcde", 3, "z", 4)
	right := 0
	envsOf(pool, 4, func(list []impl.Var) {
		got := impl.EnvOk(list)
		if got != slowEnvOk(list) {
			t.Fatalf("EnvOk(%v) = %v", list, got)
		}
		if got {
			right++
		}
	})
	if right != 16 {
		t.Errorf("%d of the lists are right; want one for each choice of four names", right)
	}
}

func TestEnvGet(t *testing.T) {
	list := env("a", -1, "ab", 0, "n", 3, "z", impl.MaxNum)
	for _, v := range list {
		checkGet(t, list, v.Name, v.Num)
	}
	for _, name := range []string{"", "b", "aa", "abc", "A", "nn", "zz", "y", "n ", "=", "\x00"} {
		refuseGet(t, list, name)
	}
	refuseGet(t, nil, "a")
	refuseGet(t, nil, "")
	refuseGet(t, env(), "a")
}

// EnvGet asks for the name alone, whatever else the list is; of several the first counts.
func TestEnvGetOfWrongLists(t *testing.T) {
	for _, list := range wrongEnvs() {
		for i, v := range list {
			first := slices.IndexFunc(list, func(w impl.Var) bool { return w.Name == v.Name })
			if first == i {
				checkGet(t, list, v.Name, v.Num)
			}
		}
		refuseGet(t, list, "none")
	}
	checkGet(t, env("a", 1, "b", 2, "a", 3), "a", 1)
	checkGet(t, env("b", 1, "a", 2), "a", 2)
	checkGet(t, env("", 5), "", 5)
	checkGet(t, env("a", math.MinInt), "a", math.MinInt)
}

func TestEnvSetNewNames(t *testing.T) {
	list := env("b", 1, "d", 2)
	checkSet(t, nil, "n", 3, env("n", 3))
	checkSet(t, env(), "abcd", 0, env("abcd", 0))
	checkSet(t, list, "a", -1, env("a", -1, "b", 1, "d", 2))
	checkSet(t, list, "c", 9, env("b", 1, "c", 9, "d", 2))
	checkSet(t, list, "ba", 9, env("b", 1, "ba", 9, "d", 2))
	checkSet(t, list, "e", 0, env("b", 1, "d", 2, "e", 0))
	checkSet(t, list, "da", 0, env("b", 1, "d", 2, "da", 0))
}

func TestEnvSetNamesThatAreThere(t *testing.T) {
	list := env("a", 1, "b", 2, "c", 3)
	checkSet(t, list, "a", 7, env("a", 7, "b", 2, "c", 3))
	checkSet(t, list, "b", -7, env("a", 1, "b", -7, "c", 3))
	checkSet(t, list, "c", 0, env("a", 1, "b", 2, "c", 0))
	checkSet(t, list, "b", 2, list)
}

func TestEnvSetLimits(t *testing.T) {
	full := fullEnv()
	for i, v := range full {
		want := fullEnv()
		want[i].Num = 70
		checkSet(t, full, v.Name, 70, want)
		checkSet(t, full, v.Name, v.Num, full)
		// With one less there is room for it again.
		checkSet(t, slices.Delete(fullEnv(), i, i+1), v.Name, v.Num, full)
	}
	for _, name := range []string{"a", "c", "e", "g", "i", "k", "m", "ba", "zzzz"} {
		refuseSet(t, full, name, 1)
	}
	for _, num := range []int{impl.MaxNum, -impl.MaxNum} {
		beyond := num + num/impl.MaxNum
		checkSet(t, env("b", 1), "a", num, env("a", num, "b", 1))
		checkSet(t, env("a", 1), "a", num, env("a", num))
		refuseSet(t, env("b", 1), "a", beyond)
		refuseSet(t, env("a", 1), "a", beyond)
		refuseSet(t, nil, "a", beyond)
		refuseSet(t, full, "d", beyond)
	}
	refuseSet(t, env("a", 1), "a", math.MaxInt)
	refuseSet(t, env("a", 1), "a", math.MinInt)
}

func TestEnvSetNames(t *testing.T) {
	for length := 1; length <= 4; length++ {
		name := strings.Repeat("q", length)
		checkSet(t, env("a", 1, "z", 2), name, 3, env("a", 1, name, 3, "z", 2))
	}
	for _, name := range []string{"", "qqqqq", "A", "aA", "1", "a1", " ", "a ", "a=", "é", "\x00", "\xff"} {
		refuseSet(t, nil, name, 1)
		refuseSet(t, env("a", 1, "z", 2), name, 3)
		refuseSet(t, env(name, 1), name, 3)
	}
}

func TestEnvSetOfWrongLists(t *testing.T) {
	for _, list := range wrongEnvs() {
		refuseSet(t, list, "o", 1)
		for _, v := range list {
			if want, right := slowSet(list, v.Name, 5); right {
				checkSet(t, list, v.Name, 5, want)
			} else {
				refuseSet(t, list, v.Name, 5)
			}
		}
	}
	// The one number that is beyond is set anew: that is right, whatever the list was.
	checkSet(t, env("a", 10000), "a", 1, env("a", 1))
	checkSet(t, env("a", 1, "b", math.MinInt), "b", 0, env("a", 1, "b", 0))
	refuseSet(t, env("a", 10000, "b", 10000), "a", 1)
	refuseSet(t, env("a", 10000), "b", 1)
	// A name stays where it is, and one that is there twice stays so.
	refuseSet(t, env("b", 1, "a", 2), "b", 3)
	refuseSet(t, env("b", 1, "a", 2), "a", 3)
	refuseSet(t, env("b", 1, "a", 2), "c", 3)
	refuseSet(t, env("a", 1, "a", 2), "a", 3)
	refuseSet(t, env("a", 1, "a", 1), "b", 3)
}

func TestEnvSetOfManyLists(t *testing.T) {
	pool := env("", 0, "a", 1, "ab", -9999, "b", 9999, "b", 10000, "c", -10000, "abcde", 3)
	envsOf(pool, 3, func(list []impl.Var) {
		for _, name := range []string{"", "a", "aa", "ab", "b", "c", "d", "abcde", "B"} {
			for _, num := range []int{0, 9999, -9999, 10000, -10000} {
				if want, right := slowSet(list, name, num); right {
					checkSet(t, list, name, num, want)
				} else {
					refuseSet(t, list, name, num)
				}
			}
		}
	})
}

func TestWhatIsSetIsGotAndAllElseStays(t *testing.T) {
	names := []string{"a", "ab", "b", "f", "n", "na", "zz", "zzzz"}
	rightEnvs(names, func(list []impl.Var) {
		for _, name := range append([]string{"aa", "zzz"}, names...) {
			_, there := impl.EnvGet(list, name)
			if !there && len(list) == impl.MaxVars {
				refuseSet(t, list, name, 77)
				continue
			}
			set, ok := impl.EnvSet(list, name, 77)
			if !ok || !impl.EnvOk(set) || !slices.IsSortedFunc(set, func(v, w impl.Var) int { return strings.Compare(v.Name, w.Name) }) {
				t.Fatalf("EnvSet(%v, %q, 77) = %v, %v; not right", list, name, set, ok)
			}
			checkGet(t, set, name, 77)
			for _, v := range list {
				if v.Name != name {
					checkGet(t, set, v.Name, v.Num)
				}
			}
			if there != (len(set) == len(list)) {
				t.Fatalf("EnvSet(%v, %q, 77) = %v; too many or too few", list, name, set)
			}
			checkSet(t, set, name, 78, withNum(set, name, 78))
		}
	})
}

// withNum is the list with another number of a name that is there.
func withNum(list []impl.Var, name string, num int) []impl.Var {
	out := slices.Clone(list)
	for i := range out {
		if out[i].Name == name {
			out[i].Num = num
		}
	}
	return out
}

// In whatever order names are set, the same list comes of it.
func TestEnvSetInAnyOrder(t *testing.T) {
	ordersOf("adkz", func(order string) {
		list := []impl.Var{}
		for i := range len(order) {
			set, ok := impl.EnvSet(list, order[i:i+1], int(order[i]))
			if !ok {
				t.Fatalf("EnvSet(%v, %q) is refused", list, order[i])
			}
			list = set
		}
		checkEnv(t, "set as "+order, list, env("a", 97, "d", 100, "k", 107, "z", 122))
	})
}

func TestEnvOnly(t *testing.T) {
	list := env("a", 1, "b", -2, "n", 0, "zz", 4)
	for _, c := range []struct {
		names []string
		want  []impl.Var
	}{
		{nil, nil},
		{[]string{}, nil},
		{[]string{"a"}, env("a", 1)},
		{[]string{"n"}, env("n", 0)},
		{[]string{"zz", "a"}, env("a", 1, "zz", 4)},
		{[]string{"zz", "n", "b", "a"}, list},
		{[]string{"b", "b", "b"}, env("b", -2)},
		{[]string{"b", "a", "b"}, env("a", 1, "b", -2)},
		{[]string{"c", "z", "aa", "zzz", "A", ""}, nil},
		{[]string{"c", "n", "", "qqqqq"}, env("n", 0)},
	} {
		checkEnv(t, "EnvOnly of "+strings.Join(c.names, " "), impl.EnvOnly(list, c.names), c.want)
		checkEnv(t, "EnvOnly of nothing", impl.EnvOnly(nil, c.names), nil)
	}
	checkEnv(t, "EnvOnly of all", impl.EnvOnly(fullEnv(), []string{"l", "j", "h", "f", "d", "b"}), fullEnv())
}

func TestEnvOnlyKeepsRightListsRight(t *testing.T) {
	rightEnvs([]string{"a", "ab", "b", "n", "z", "zz"}, func(list []impl.Var) {
		rightEnvs([]string{"zz", "b", "c", "ab"}, func(asked []impl.Var) {
			names := []string{}
			for _, v := range asked {
				names = append(names, v.Name)
			}
			only := impl.EnvOnly(list, names)
			if !impl.EnvOk(only) {
				t.Fatalf("EnvOnly(%v, %v) = %v; not right", list, names, only)
			}
			for _, v := range list {
				if slices.Contains(names, v.Name) {
					checkGet(t, only, v.Name, v.Num)
				} else {
					refuseGet(t, only, v.Name)
				}
			}
			if len(only) > len(list) || len(only) > len(names) {
				t.Fatalf("EnvOnly(%v, %v) = %v; too many", list, names, only)
			}
		})
	})
}

// EnvOnly leaves out what is not asked for, and nothing else, in the list's own order.
func TestEnvOnlyOfWrongLists(t *testing.T) {
	for cause, list := range wrongEnvs() {
		names := []string{"none"}
		for _, v := range list {
			names = append(names, v.Name)
		}
		checkEnv(t, cause, impl.EnvOnly(list, names), list)
		checkEnv(t, cause, impl.EnvOnly(list, []string{"none"}), nil)
	}
	checkEnv(t, "unordered", impl.EnvOnly(env("c", 1, "a", 2, "b", 3), []string{"b", "c"}), env("c", 1, "b", 3))
	checkEnv(t, "twice", impl.EnvOnly(env("a", 1, "b", 2, "a", 3), []string{"a"}), env("a", 1, "a", 3))
	checkEnv(t, "an empty name", impl.EnvOnly(env("", 1, "a", 2), []string{""}), env("", 1))
}

func TestEnvText(t *testing.T) {
	for _, c := range []struct {
		list []impl.Var
		want string
	}{
		{nil, ""},
		{env(), ""},
		{env("a", 0), "a=0"},
		{env("a", -1, "n", 3), "a=-1,n=3"},
		{env("abcd", impl.MaxNum, "z", -impl.MaxNum), "abcd=9999,z=-9999"},
		{fullEnv(), "b=1,d=2,f=3,h=4,j=5,l=6"},
	} {
		if got := impl.EnvText(c.list); got != c.want {
			t.Errorf("EnvText(%v) = %q; want %q", c.list, got, c.want)
		}
	}
}

func TestEnvTextOfWrongLists(t *testing.T) {
	for _, c := range []struct {
		list []impl.Var
		want string
	}{
		{env("b", 1, "a", 2), "b=1,a=2"},
		{env("a", 1, "a", 2), "a=1,a=2"},
		{env("", 0), "=0"},
		{env("", -1, "", -1), "=-1,=-1"},
		{env("abcde", 1, "A=,", 2), "abcde=1,A=,=2"},
		{env("\xff\x00", 1), "\xff\x00=1"},
		{env("a", 10000, "b", -10000), "a=10000,b=-10000"},
		{env("a", math.MaxInt), "a=9223372036854775807"},
		{env("a", math.MinInt+1), "a=-9223372036854775807"},
		{env("a", math.MinInt), "a=--9223372036854775808"},
		{env("a", math.MinInt, "b", -1), "a=--9223372036854775808,b=-1"},
		{append(fullEnv(), impl.Var{Name: "n", Num: 7}), "b=1,d=2,f=3,h=4,j=5,l=6,n=7"},
	} {
		if got := impl.EnvText(c.list); got != c.want {
			t.Errorf("EnvText(%v) = %q; want %q", c.list, got, c.want)
		}
	}
	for n := -10100; n <= 10100; n++ {
		if got, want := impl.EnvText(env("v", n)), "v="+strconv.Itoa(n); got != want {
			t.Fatalf("EnvText of %d = %q; want %q", n, got, want)
		}
	}
}

// roomy is the list with spare room behind it, and all of that room, which no call may write into.
func roomy(list []impl.Var) ([]impl.Var, []impl.Var) {
	all := make([]impl.Var, len(list)+8)
	for i := range all {
		all[i] = impl.Var{Name: "spare", Num: i}
	}
	// The names are no constants, so that memory which is shared can be told.
	for i, v := range list {
		all[i] = impl.Var{Name: strings.Clone(v.Name), Num: v.Num}
	}
	return all[:len(list)], all
}

func sharesVars(a, b []impl.Var) bool {
	size := unsafe.Sizeof(impl.Var{})
	x, y := uintptr(unsafe.Pointer(unsafe.SliceData(a))), uintptr(unsafe.Pointer(unsafe.SliceData(b)))
	if cap(a) > 0 && cap(b) > 0 && x < y+uintptr(cap(b))*size && y < x+uintptr(cap(a))*size {
		return true
	}
	for _, v := range a {
		for _, w := range b {
			if shares(v.Name, w.Name) {
				return true
			}
		}
	}
	return false
}

func TestEnvAnswersNewMemory(t *testing.T) {
	lists := append(slices.Collect(maps.Values(wrongEnvs())), env(), env("a", 1), env("a", 1, "b", 2, "c", 3), fullEnv())
	for _, plain := range lists {
		list, all := roomy(plain)
		before := slices.Clone(all)
		for _, name := range []string{"a", "b", "zz", "", "qqqqq"} {
			name := strings.Clone(name)
			names := []string{name, strings.Clone("b"), name}
			set, _ := impl.EnvSet(list, name, 3)
			only := impl.EnvOnly(list, names)
			impl.EnvGet(list, name)
			impl.EnvOk(list)
			told := impl.EnvText(list)
			for _, answer := range [][]impl.Var{set, only} {
				if sharesVars(answer, all) || sharesVars(answer, env(name, 0)) {
					t.Fatalf("%v, %q: an answer shares memory with an argument", plain, name)
				}
				clear(answer[:cap(answer)])
			}
			for _, v := range list {
				if shares(told, v.Name) {
					t.Fatalf("EnvText(%v) shares memory with its argument", plain)
				}
			}
			if !slices.Equal(all, before) || !slices.Equal(names, []string{name, "b", name}) {
				t.Fatalf("%v, %q: an argument is changed", plain, name)
			}
		}
	}
}

func TestEnvAnswersTheSameAgain(t *testing.T) {
	for range 50 {
		checkSet(t, fullEnv(), "f", 30, withNum(fullEnv(), "f", 30))
		checkEnv(t, "EnvOnly", impl.EnvOnly(fullEnv(), []string{"l", "d", "b"}), env("b", 1, "d", 2, "l", 6))
		refuseSet(t, fullEnv(), "g", 30)
	}
}
