package token_test

import (
	"strings"
	"testing"

	"broadsheet/api"
)

func TestDeclaration(t *testing.T) { // G1: with each of its parts, and without each
	for _, s := range []string{
		`<?xml version="1.0"?>`,
		`<?xml version='1.0'?>`,
		`<?xml version="1.1"?>`,
		`<?xml version="1.0123456789"?>`,
		`<?xml version="1.99999999999999999999999"?>`,
		`<?xml version="1.0" encoding="UTF-8"?>`,
		`<?xml version='1.0' encoding='UTF-8'?>`,
		`<?xml version="1.0" encoding='UTF-8'?>`,
		`<?xml version="1.0" standalone="yes"?>`,
		`<?xml version="1.0" standalone='no'?>`,
		`<?xml version="1.0" encoding="UTF-8" standalone="yes"?>`,
		`<?xml version='1.0' encoding='UTF-8' standalone='no'?>`,
		`<?xml version='1.0' encoding="UTF-8" standalone='yes'?>`,
		`<?xml version='1.0' encoding='utf-8'?>`,
		`<?xml version='1.0' encoding='Utf-8'?>`,
		`<?xml version='1.0' encoding='uTf-8'?>`,
		`<?xml version='1.0' encoding='utF-8' ?>`,
	} {
		has(t, s, declaration())
		has(t, s+"<a/>", declaration(), alone("a"))
		has(t, s+"\n", declaration(), chars("\n"))
		has(t, s+"?>", declaration(), chars("?>"))
		has(t, s+"<?p?><!---->", declaration(), instruction("p", ""), note(""))
		for _, ahead := range []string{"<a>", " ", "\n", "x", "<!---->", "<?p?>", "<![CDATA[]]>", "</a>", "\uFEFF", s} { // it's at the very head alone
			refuses(t, ahead+s, api.ErrTag)
			refuses(t, ahead+s+"<a/>", api.ErrTag)
		}
		for n := 1; n < len(s); n++ {
			refuses(t, s[:n], api.ErrTag)
			refuses(t, s[:n]+"<"+s[n:], api.ErrTag)
			agrees(t, s[:n]+s[n+1:])
		}
	}
}

// In these texts _ is where space must be, or may not be, and ~ where it may be.
func TestSpaceOfDeclarations(t *testing.T) { // G1
	spaces := []string{" ", "\t", "\n", "\r", "\r\n", "  ", " \t\r\n ", "\n\n"}
	for _, x := range spaces {
		must := strings.NewReplacer("_", x, "~", "")
		both := strings.NewReplacer("_", x, "~", x)
		for _, s := range []string{
			"<?xml_version~=~'1.0'~?>",
			"<?xml_version~=~\"1.0\"_encoding~=~'utf-8'~?>",
			"<?xml_version~=~'1.0'_standalone~=~'yes'~?>",
			"<?xml_version~=~'1.0'_encoding~=~'UTF-8'_standalone~=~\"no\"~?>",
		} {
			has(t, must.Replace(s)+"<a/>", declaration(), alone("a"))
			has(t, both.Replace(s)+"<a/>", declaration(), alone("a"))
			for i, c := range s { // each place by itself
				if c == '~' {
					has(t, must.Replace(s[:i])+x+must.Replace(s[i+1:]), declaration())
				} else if c == '_' && i > len("<?xml") { // without that one it's an instruction
					refuses(t, both.Replace(s[:i])+both.Replace(s[i+1:]), api.ErrTag)
				}
			}
		}
		for _, s := range []string{ // where no space may be
			"<_?xml version='1.0'?>",
			"<?_xml version='1.0'?>",
			"<?xml ver_sion='1.0'?>",
			"<?xml version='_1.0'?>",
			"<?xml version='1_.0'?>",
			"<?xml version='1._0'?>",
			"<?xml version='1.0_'?>",
			"<?xml version='1.0'?_>",
			"<?xml version='1.0' enc_oding='UTF-8'?>",
			"<?xml version='1.0' encoding='_UTF-8'?>",
			"<?xml version='1.0' encoding='UTF_-8'?>",
			"<?xml version='1.0' encoding='UTF-8_'?>",
			"<?xml version='1.0' stand_alone='yes'?>",
			"<?xml version='1.0' standalone='_yes'?>",
			"<?xml version='1.0' standalone='yes_'?>",
			"<?xml version='1.0' standalone='n_o'?>",
		} {
			refuses(t, must.Replace(s), api.ErrTag)
			refuses(t, must.Replace(s)+"<a/>", api.ErrTag)
		}
	}
	for _, x := range []string{"\v", "\f", "\x00", "\u00A0", "\u0085", "\u2028", "\u3000"} { // what is no space
		for _, s := range []string{"<?xml_version='1.0'?>", "<?xml version_='1.0'?>", "<?xml version=_'1.0'?>", "<?xml version='1.0'_?>", "<?xml version='1.0'_standalone='no'?>"} {
			agrees(t, strings.ReplaceAll(s, "_", x))
		}
	}
}

func TestWhatIsNoDeclaration(t *testing.T) { // G1: what else stands at the very head
	for _, s := range []string{
		"<?xml ?>", "<?xml  ?>", "<?xml\n?>", "<?xml ", "<?xml\t", "<?xml \n<a/>", "<?xml <a/>", "<?xml x?>",
		"<?xml version?>", "<?xml version=?>", "<?xml version=1.0?>", "<?xml version=\"1.0'?>", "<?xml version='1.0\"?>", "<?xml version '1.0'?>", "<?xml version=='1.0'?>",
		"<?xml version='1.0?>", "<?xml version='1.0'", "<?xml version='1.0'?", "<?xml version='1.0'>", "<?xml version='1.0'/>", "<?xml version='1.0' ", "<?xml version='1.0'? >",
		"<?xml version='1.0'??>", "<?xml version='1.0'x?>", "<?xml version='1.0' x?>", "<?xml version='1.0' x='y'?>", "<?xml x='y' version='1.0'?>",
		"<?xml version=''?>", "<?xml version='1'?>", "<?xml version='1.'?>", "<?xml version='.0'?>", "<?xml version='1.0.0'?>", "<?xml version='1.a'?>", "<?xml version='1.0a'?>",
		"<?xml version='1.-1'?>", "<?xml version='1.+1'?>", "<?xml version='+1.0'?>", "<?xml version='2.0'?>", "<?xml version='0.1'?>", "<?xml version='11.0'?>", "<?xml version='01.0'?>",
		"<?xml version='1,0'?>", "<?xml version='10'?>", "<?xml version='1.\u0661'?>", "<?xml version='1.\uFF10'?>", "<?xml version='1.0&#48;'?>", "<?xml version='1&#46;0'?>", "<?xml version='1.1.'?>",
		"<?xml VERSION='1.0'?>", "<?xml Version='1.0'?>", "<?xml versio='1.0'?>", "<?xml versions='1.0'?>", "<?xml xversion='1.0'?>",
		"<?xml encoding='UTF-8'?>", "<?xml standalone='yes'?>", "<?xml encoding='UTF-8' version='1.0'?>", "<?xml standalone='yes' version='1.0'?>",
		"<?xml version='1.0'encoding='UTF-8'?>", "<?xml version='1.0'standalone='yes'?>", "<?xml version='1.0' encoding='UTF-8'standalone='yes'?>",
		"<?xml version='1.0' standalone='yes' encoding='UTF-8'?>", "<?xml version='1.0' standalone='yes' standalone='yes'?>", "<?xml version='1.0' version='1.0'?>",
		"<?xml version='1.0' encoding='UTF-8' encoding='UTF-8'?>", "<?xml version='1.0' encoding='UTF-8' version='1.0'?>",
		"<?xml version='1.0' encoding?>", "<?xml version='1.0' encoding=?>", "<?xml version='1.0' encoding=''?>", "<?xml version='1.0' encoding=UTF-8?>", "<?xml version='1.0' encoding='UTF-8?>", "<?xml version='1.0' encoding='UTF-8\"?>",
		"<?xml version='1.0' encoding='UTF8'?>", "<?xml version='1.0' encoding='UTF-16'?>", "<?xml version='1.0' encoding='UTF-88'?>", "<?xml version='1.0' encoding='xUTF-8'?>", "<?xml version='1.0' encoding='UTF_8'?>",
		"<?xml version='1.0' encoding='ISO-8859-1'?>", "<?xml version='1.0' encoding='ASCII'?>", "<?xml version='1.0' encoding='latin1'?>", "<?xml version='1.0' ENCODING='UTF-8'?>", "<?xml version='1.0' encodings='UTF-8'?>",
		"<?xml version='1.0' encoding='\uFF35TF-8'?>", "<?xml version='1.0' encoding='UTF\u20108'?>", "<?xml version='1.0' encoding='UTF-8&#32;'?>",
		"<?xml version='1.0' standalone?>", "<?xml version='1.0' standalone=?>", "<?xml version='1.0' standalone=''?>", "<?xml version='1.0' standalone=yes?>", "<?xml version='1.0' standalone='yes?>", "<?xml version='1.0' standalone='no\"?>",
		"<?xml version='1.0' standalone='Yes'?>", "<?xml version='1.0' standalone='YES'?>", "<?xml version='1.0' standalone='No'?>", "<?xml version='1.0' standalone='NO'?>", "<?xml version='1.0' standalone='maybe'?>", "<?xml version='1.0' standalone='true'?>",
		"<?xml version='1.0' standalone='yesno'?>", "<?xml version='1.0' standalone='y'?>", "<?xml version='1.0' STANDALONE='yes'?>", "<?xml version='1.0' standalone='yes'x?>", "<?xml version='1.0' standalone='yes' x?>",
		"<?xml?>", "<?xml", "<?xml>", "<?xml/>", "<?xml?", "<?xml=?>", "<?xml'version='1.0'?>", // these have no space
		"<?XML version='1.0'?>", "<?Xml version='1.0'?>", "<?xmL version='1.0'?>", "<?XML?>", // nor are these the very bytes
		"< ?xml version='1.0'?>", "<? xml version='1.0'?>", "<!xml version='1.0'?>", "\uFEFF<?xml version='1.0'?>", " <?xml version='1.0'?>",
	} {
		refuses(t, s, api.ErrTag)
		refuses(t, s+"<a b='c'/>", api.ErrTag)
		refuses(t, s+"<!DOCTYPE a>", api.ErrTag) // it's the first one that is told
		refuses(t, s+"&x;", api.ErrTag)
	}
	has(t, "<?xmlversion ?>", instruction("xmlversion", ""))
	has(t, "<?xm l version='1.0'?>", instruction("xm", "l version='1.0'"))
	has(t, "<?xmlish version='1.0'?>", instruction("xmlish", "version='1.0'"))
	has(t, "<?xml-model x?>", instruction("xml-model", "x"))
	has(t, "<?xml:a ?>", instruction("xml:a", ""))
	has(t, "<xml version='1.0'/>", alone("xml", pairs("version", "1.0")...))
	has(t, "<!--<?xml version='1.0'?>-->", note("<?xml version='1.0'?>"))
	has(t, "?xml version='1.0'?>", chars("?xml version='1.0'?>"))
	refuses(t, "<?xml version='2.0'?>]]>", api.ErrTag)
	refuses(t, "<?xml version='1.0'?><!DOCTYPE a>", api.ErrType)
	refuses(t, "<?xml version='1.0'?>&x;", api.ErrRef)
}
