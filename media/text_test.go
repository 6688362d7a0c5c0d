package media_test

import (
	"testing"

	"broadsheet/media"
)

func TestText(t *testing.T) { // what another layer takes off a text, and what is left
	s := media.Text("a \t/")
	if s.Space(); s != "a \t/" {
		t.Errorf("no space, but %q is left", s)
	}
	if s.Takes(' ') || s.Takes('A') || s != "a \t/" {
		t.Errorf("nothing is there to be taken, but %q is left", s)
	}
	if !s.Takes('a') || s != " \t/" {
		t.Errorf("a is not taken: %q", s)
	}
	if s.Space(); s != "/" {
		t.Errorf("space is not taken: %q", s)
	}
	if !s.Takes('/') || s != "" {
		t.Errorf("/ is not taken: %q", s)
	}
	if s.Space(); s.Takes(0) || s != "" {
		t.Errorf("of nothing: %q", s)
	}
}
