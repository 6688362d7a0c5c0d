package quality_test

import (
	"slices"
	"strconv"
	"strings"
	"testing"

	"broadsheet/api"
	"broadsheet/quality"
)

func TestBest(t *testing.T) { // N7: the greatest weight, and its place
	have := types(t, "text/plain", "text/html", "image/png")
	picks(t, "text/plain", have, 0, 1)
	picks(t, "text/html", have, 1, 1)
	picks(t, "image/png", have, 2, 1)
	picks(t, "image/*", have, 2, 1)
	picks(t, "image/*;q=0.001", have, 2, 0.001)
	picks(t, "text/plain;q=0.1, text/html;q=0.3, image/png;q=0.2", have, 1, 0.3)
	picks(t, "text/plain;q=0.1, text/html;q=0.2, image/png;q=0.3", have, 2, 0.3)
	picks(t, "image/png;q=0.1, text/html;q=0.2, text/plain;q=0.3", have, 0, 0.3)
	picks(t, "text/plain;q=0.998, text/html;q=0.999", have, 1, 0.999)
	picks(t, "text/*;q=0.5, text/html, */*;q=0.1", have, 1, 1)
	picks(t, "text/*;q=0.5, text/html, */*;q=0.1", have[:2], 1, 1)
	picks(t, "TEXT/HTML;Q=0.5", have, 1, 0.5)
}

func TestBestOfNothing(t *testing.T) { // N7: -1 and 0, if no weight is above 0, and if there is no type
	have := types(t, "text/plain", "text/html;a=1", "image/png")
	for _, s := range []string{
		"", " ", ",", ", ,", "a/b", "a/*", "text", "text/", "*", "*/html", "text/html;a=2", "text/plain;a=1", "*/*;a=2", "\"", "\"text/plain, text/html\"", "text/plain;q", "text/plain q=1",
		"*/*;q=0", "*/*;q=0.", "*/*;q=0.000", "text/*;q=0, image/*;q=0", "text/plain;q=0, text/html;q=0, image/png;q=0", "*/*;q=x", "*/*;q=1.001", "*/*;q=\"\"", "*/*;q=-1", "*/*;q=2, a/b", "text/plain;q=0, a/b;q=1",
	} {
		picks(t, s, have, -1, 0)
		picks(t, s, nil, -1, 0)
		picks(t, s, have[:0], -1, 0)
		picks(t, s, []api.Media{}, -1, 0)
	}
	for _, s := range []string{"*/*", "text/html", "*/*;q=0.5, text/*"} {
		picks(t, s, nil, -1, 0)
		picks(t, s, have[:0], -1, 0)
	}
}

func TestTheSameWeight(t *testing.T) { // N7: of two types the first one, and of one that stands there twice
	a, b, c := known(t, "a/b"), known(t, "a/c"), known(t, "b/b")
	for _, s := range []string{"*/*;q=0.5", "a/*;q=0.5, b/*;q=0.5", "b/b;q=0.5, a/c;q=0.5, a/b;q=0.5", "b/*;q=0.5,*/*;q=0.50"} {
		picks(t, s, []api.Media{a, b, c}, 0, 0.5)
		picks(t, s, []api.Media{c, b, a}, 0, 0.5)
		picks(t, s, []api.Media{b, b}, 0, 0.5)
	}
	picks(t, "a/b", []api.Media{b, a, c, a}, 1, 1)
	picks(t, "a/b, */*;q=0.9", []api.Media{b, a, c, a, a}, 1, 1)
	picks(t, "a/c;q=0.2, a/b;q=0.7, b/b;q=0.7", []api.Media{b, c, a, b}, 1, 0.7)
	picks(t, "a/b;q=0, */*;q=0.1", []api.Media{a, a, b, c, b}, 2, 0.1)
	picks(t, "a/b;q=0, b/b;q=x, a/c;q=0.001", []api.Media{a, c, b, a}, 2, 0.001)
}

func TestRangesThatAreNone(t *testing.T) { // N5: among good ones they are passed over, wherever they stand
	have := types(t, "text/plain", "image/png")
	for _, x := range []string{"", " ", "x", "text", "/", "*/png", "text/plain;", "text/plain;q", "text/plain;q=", "text/plain;=1", "text/plain q=0", "text/plain;q =0", "text/plain;q= 0", "te xt/plain;q=0", "text/plain;q=0;", "text/plain/x;q=0", "\"text/plain\";q=0", "text/plain\n", "text/plain;q=0.5\x00", "tëxt/plain"} {
		for _, s := range []string{"text/plain;q=0.3,image/png;q=0.2" + "," + x, x + ", text/plain;q=0.3, image/png;q=0.2", "text/plain;q=0.3," + x + ",image/png;q=0.2"} {
			picks(t, s, have, 0, 0.3)
		}
		picks(t, x+",image/png;q=0.2,"+x, have, 1, 0.2)
		picks(t, x, have, -1, 0)
		picks(t, x+","+x, have, -1, 0)
	}
	picks(t, "text/plain;q=0.3;a=\", image/png", have, -1, 0) // all of it is one piece, and no range
	picks(t, "x\", text/plain, image/png;q=0.5", have, -1, 0)
	picks(t, "x\"\", text/plain;q=0.1, image/png;q=0.5", have, 1, 0.5)
}

func TestWeightsOfRanges(t *testing.T) { // N5: without q, with one, with two, and with one that is no weight
	have := types(t, "a/b")
	picks(t, "a/b", have, 0, 1)
	picks(t, "a/b;q=1", have, 0, 1)
	picks(t, "a/b;q=1.", have, 0, 1)
	picks(t, "a/b;q=1.000", have, 0, 1)
	picks(t, "a/b;q=0.001", have, 0, 0.001)
	picks(t, "a/b;q=0.7", have, 0, 0.7)
	picks(t, " a/b ;\tQ=0.70 ", have, 0, 0.7)
	picks(t, `a/b;q="0.7"`, have, 0, 0.7) // a Value is what is quoted
	picks(t, `a/b;q="\0.\7"`, have, 0, 0.7)
	picks(t, "a/b;q=0.2;q=0.9", have, 0, 0.2) // of two the first one
	picks(t, "a/b;q=0.9;Q=0.2", have, 0, 0.9)
	picks(t, "a/b;q=0.9;q=x", have, 0, 0.9)
	for _, q := range []string{"0", "0.", "0.0", "0.000", "x", `""`, "1.001", "1.5", "2", "10", "-1", "-0", "+1", "0.1234", "1.0000", ".5", "1e0", "NaN", "Inf", "+Inf", "00", "01", `" 1"`, `"1 "`, `"0,5"`, "*", "1x;q=1", "x;q=0.5", `"";q=1`, "0;q=1", "2;q=0.5"} {
		picks(t, "a/b;q="+q, have, -1, 0)
		picks(t, "a/b;q="+q+", */*;q=0.5", have, -1, 0) // it is the narrowest range all the same
	}
}

func TestWhatIsNoQ(t *testing.T) { // N5: parameters of other names weigh nothing
	have := types(t, "a/b;qs=0.5;p=0.2;qq=0;k=1")
	for _, s := range []string{"a/b;qs=0.5", "a/b;p=0.2", "a/b;qq=0", "a/b;k=1", "a/b;qs=0.5;p=0.2;qq=0;k=1"} {
		picks(t, s, have, 0, 1)
		picks(t, s+";q=0.3", have, 0, 0.3)
		picks(t, strings.Replace(s, ";", ";q=0.4;", 1), have, 0, 0.4)
	}
	picks(t, "a/b;q=0.3", types(t, "a/b;q=0.8"), 0, 0.3) // a type's own q is nothing, too
	picks(t, "a/b", types(t, "a/b;q=0"), 0, 1)
	picks(t, "a/b;q=0.3", types(t, "a/b;q=0", "a/b;q=1"), 0, 0.3)
}

func TestNarrowness(t *testing.T) { // N5, N6: the narrowest range counts, wherever it stands and whatever it weighs
	have := types(t, "a/b;c=1;d=2")
	l := []string{"*/*", "*/*;c=1", "*/*;d=2;c=1", "a/*", "a/*;c=1", "a/*;c=1;d=2", "a/b", "a/b;d=2", "a/b;c=1;d=2", "a/b;c=1;d=2;d=2"} // the narrower the later
	weights := []string{"0.1", "0.9", "0", "1", "x", "0.5"}
	for i, x := range l {
		for k, y := range l {
			for _, p := range weights {
				for _, q := range weights {
					want := quality.Clamp(quality.Weight(p))
					if k > i {
						want = quality.Clamp(quality.Weight(q))
					}
					at := 0
					if want == 0 {
						at = -1
					}
					picks(t, x+";q="+p+","+y+";q="+q, have, at, want)
				}
			}
		}
	}
}

func TestTheSameNarrowness(t *testing.T) { // N6: of two ranges the first one counts
	have := types(t, "a/b;c=1;d=2")
	for _, l := range [][]string{
		{"*/*", "*/*"}, {"a/*", "a/*", "A/*"}, {"a/b", "a/b", "A/B"}, {"*/*;c=1", "*/*;d=2"}, {"a/*;c=1", "a/*;d=2"},
		{"a/b;c=1", "a/b;d=2", "a/b;C=1"}, {"a/b;c=1;d=2", "a/b;d=2;c=1", "a/b;c=1;c=1", "a/b;d=2;d=2"},
	} {
		for _, x := range l {
			for _, y := range l {
				picks(t, x+";q=0.2,"+y+";q=0.8", have, 0, 0.2)
				picks(t, x+";q=0.8,"+y+";q=0.2", have, 0, 0.8)
				picks(t, x+";q=0.2,"+y, have, 0, 0.2)
				picks(t, x+","+y+";q=0.2", have, 0, 1)
				picks(t, x+";q=0,"+y, have, -1, 0)
				picks(t, x+";q=x,"+y+",*/*", have, -1, 0)
			}
		}
	}
}

func TestQMakesNothingNarrower(t *testing.T) { // N5: however many of them there are, and wherever they stand
	have := types(t, "a/b;c=1")
	picks(t, "a/b;q=0.2, a/b;q=0.3;q=0.4;q=0.5", have, 0, 0.2)
	picks(t, "a/b, a/b;q=0.3;q=0.4", have, 0, 1)
	picks(t, "a/b;q=0.3;q=0.4, a/b", have, 0, 0.3)
	picks(t, "a/b;q=0.3;Q=0.4;q=x, a/b;c=1;q=0.1", have, 0, 0.1)
	picks(t, "a/b;q=0.3;c=1;q=0.4, a/b;c=1;q=0.1", have, 0, 0.3)
	picks(t, "a/*;q=0.5;q=0.5, a/b;q=0.6", have, 0, 0.6)
	picks(t, "*/*"+strings.Repeat(";q=0.5", 300)+", a/b;q=0.6", have, 0, 0.6)
}

func TestHundreds(t *testing.T) { // N5: a Type and a Sub count as a hundred parameters each
	var params []string
	for n := range 210 {
		params = append(params, ";p"+strconv.Itoa(n)+"=1")
	}
	with := func(span string, n int) string { return span + strings.Join(params[:n], "") }
	have := types(t, with("a/b", len(params)))
	for _, x := range []struct {
		a, b string
		want int // -1, 0 or 1, as a is narrower than b, neither is, or b is
	}{
		{with("*/*", 99), "a/*", 1}, {with("*/*", 100), "a/*", 0}, {with("*/*", 101), "a/*", -1},
		{with("a/*", 99), "a/b", 1}, {with("a/*", 100), "a/b", 0}, {with("a/*", 101), "a/b", -1},
		{with("*/*", 199), "a/b", 1}, {with("*/*", 200), "a/b", 0}, {with("*/*", 201), "a/b", -1},
		{with("*/*", 104), with("a/*", 5), 1}, {with("*/*", 105), with("a/*", 5), 0}, {with("*/*", 106), with("a/*", 5), -1},
		{"*/*" + strings.Repeat(";p1=1", 101), "a/*", -1}, {"*/*" + strings.Repeat(";p1=1", 100), "a/*", 0}, // each counts, though it is there already
	} {
		a, b := 0.2, 0.2
		if x.want == 1 {
			a = 0.8
		}
		if x.want != -1 {
			b = 0.8
		}
		picks(t, x.a+";q=0.2, "+x.b+";q=0.8", have, 0, a)
		picks(t, x.b+";q=0.8, "+x.a+";q=0.2", have, 0, b)
	}
}

func TestTypesAndRanges(t *testing.T) { // N6: types that fit no range, one, and more than one
	have := types(t, "text/plain", "text/html", "image/png", "video/mp4")
	picks(t, "text/plain;q=0.5, text/*;q=0.6, image/*;q=0.4", have, 1, 0.6)
	picks(t, "text/*;q=0.6, text/plain;q=0.7, image/*;q=0.65", have, 0, 0.7)
	picks(t, "text/plain;q=0, text/*;q=0.1, */*;q=0.2", have, 2, 0.2)
	picks(t, "*/*;q=0.2, text/*;q=0.1, video/mp4;q=0.3", have, 3, 0.3)
	picks(t, "text/*;q=0, */*;q=0.3", have, 2, 0.3)
	picks(t, "text/*;q=0, */*;q=0.3, image/png;q=x", have, 3, 0.3)
	picks(t, "*/*, text/*;q=0.9, image/png;q=0.8", have, 3, 1)
	picks(t, "a/b, c/*;q=0.9, video/*;q=0.1", have, 3, 0.1)
	picks(t, "a/b, c/*;q=0.9", have, -1, 0)
}

func TestParametersOfTypes(t *testing.T) { // N6: a range with parameters is for types that have them
	have := types(t, "text/html", "text/html;level=1", "text/html;level=2", "text/plain")
	s := "text/*;q=0.3, text/html;q=0.7, text/html;level=1, text/html;level=2;q=0.4, */*;q=0.5" // as RFC 9110 tells it
	picks(t, s, have, 1, 1)
	picks(t, s, have[:1], 0, 0.7)
	picks(t, s, have[2:], 0, 0.4)
	picks(t, s, have[3:], 0, 0.3)
	picks(t, s, types(t, "image/jpeg"), 0, 0.5)
	picks(t, s, types(t, "text/html;level=3"), 0, 0.7)
	picks(t, `a/b;c="x,\"y";q=0.4, a/b;q=0.2`, types(t, "a/b", `a/b;c="X,\"Y"`), 1, 0.4)
	picks(t, `a/b;c="x,a/b;q=0.9"`, types(t, "a/b"), -1, 0)
}

func TestTypesThatNobodyParsed(t *testing.T) { // N6: they are held against ranges as they are handed in
	picks(t, "text/html, */*;q=0.1", []api.Media{{Type: "Text", Sub: "HTML"}}, 0, 0.1)
	picks(t, "text/html", []api.Media{{Type: "Text", Sub: "HTML"}}, -1, 0)
	picks(t, "*/*;q=0.5", []api.Media{{}}, 0, 0.5)
	picks(t, "x, text/, , */html, /", []api.Media{{}}, -1, 0) // what is no range is not an empty one
	picks(t, "text/html", []api.Media{{}, {Type: "*", Sub: "*"}, {Type: "text", Sub: "*"}, {Type: "text", Sub: "html"}}, 3, 1)
	picks(t, "text/*;q=0.5, */*;q=0.2", []api.Media{{Type: "*", Sub: "*"}, {Type: "text", Sub: "*"}, {Type: "\xff"}}, 1, 0.5)
}

func TestWhatIsHandedIn(t *testing.T) { // R3: nothing is written into it
	given := func() []api.Media { return types(t, "a/b;c=1;q=0.5", "A/B;C=X", "c/d")[:2] }
	have := given()
	quality.Best("a/b;c=1;q=0.1, a/*;q=0.5, */*", have)
	for i, m := range have[:3] {
		if want := given()[:3][i]; m.Type != want.Type || m.Sub != want.Sub || !slices.Equal(m.Params, want.Params) {
			t.Errorf("%q, not %q", m, want)
		}
	}
}

func TestEachBest(t *testing.T) { // N5, N6, N7: of many texts and lists of types, against the model
	all := types(t, "a/b", "a/b;c=1", "a/d", "e/b;c=1;f=2", "a/b")
	lists := [][]api.Media{nil, all, all[:1], all[1:], all[2:4], {all[3], all[1], all[2]}, {all[2], all[2], all[0]}}
	check := func(s string) {
		for _, have := range lists {
			agrees(t, s, have)
		}
	}
	ranges := []string{"*/*", "*/*;c=1;q=0.2", "a/*;q=0.5", "a/b", "a/b;c=1;q=0", "a/b;q=0.9;q=0.1", "e/*;f=2;q=0.7", "a/d;q=x", "a/*;c=1;q=2", "e/b;c=1;q=0.001", "*/b", " A/D ;Q=\"0.3\" "}
	for _, x := range ranges {
		for _, y := range ranges {
			for _, z := range ranges {
				check(x + "," + y + "," + z)
			}
		}
	}
	texts("", []string{"a/b", "*/*", "a/*", ";c=1", ";q=", "0.5", "1", ",", "\"", "\\"}, 5, check)
	texts("a/b;c=", []string{"1", "\"", "\\", ",", ";q=0.", "5", "a/b"}, 5, check)
}

func TestBestOfMuch(t *testing.T) { // N7: no length is too great
	const n = 20000
	var have []api.Media
	for i := range 50 {
		have = append(have, types(t, "a/b"+strconv.Itoa(i))...)
	}
	picks(t, strings.Repeat("x/*;q=0.9,a/*;q=0.1,", n)+"a/b49;q=0.2", have, 49, 0.2)
	picks(t, strings.Repeat(",", n)+strings.Repeat("a/b", n)+",a/b7;q="+strings.Repeat("0", n), have, -1, 0)
	picks(t, "a/b0;c="+strings.Repeat("x", n)+",a/*", have, 0, 1)
}
